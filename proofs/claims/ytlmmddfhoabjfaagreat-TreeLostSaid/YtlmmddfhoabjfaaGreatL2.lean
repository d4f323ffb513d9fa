/- What the proofs lean on, part 2. -/
import Derived.Test.YtlmmddfhoabjfaaGreatL1
import Derived.Below
import Derived.Orders
import Derived.Laws.Externs
import Derived.RangeFuncRecord
import Derived.OrdersIn
import Derived.Maps.RangeRun
import Derived.RangeFuncSeq
import Derived.Lib.Overlaps
set_option linter.unusedVariables false
set_option maxRecDepth 20000
section
namespace Go.Am
section
variable {P:Program}
def Sound (P:Program) (call:FuncId->List Value->AW->Option (Value × AW)):Prop :=
 ∀ f args h v h',call f args h=some (v,h')->(∃ fn c,P.funcs[f]?=some fn/\fn.body=some c)/\∀ ρ us w,LRel ρ args us->HRel P ρ h w →
  Calls P f ⟨us⟩ w fun e w'=>∃ u ρ',e=.returned u/\VRel ρ' v u/\HRel P ρ' h' w'/\Turn ρ h w ρ' h' w'
def noGo (P:Program):Bool:=P.funcs.toList.all fun fn=>!(fn.name == "runtime.NumGoroutine")
theorem run_callFunc (hg:noGo P=true) {f:FuncId} {fn:Func} {c:Code} (hf:P.funcs[f]?=some fn) (hb:fn.body=some c) (args:Array Value) (w:World):(callFunc f args).run P w=.ok (.enter f args) w:=by
 have hn:(fn.name == "runtime.NumGoroutine")=false:=by
  have hm:fn∈P.funcs.toList:=by
   obtain ⟨hlt,he⟩:=Array.getElem?_eq_some_iff.1 hf
   exact Array.mem_toList_iff.2 (he ▸ Array.getElem_mem hlt)
  have:=List.all_eq_true.1 hg fn hm
  simpa using this
 have hn':¬ fn.name= "runtime.NumGoroutine":=by simpa using hn
 simp [callFunc,hf,hn',hb]
theorem setAt_rel {ρ:Env}:∀ {a a':Slots} {us:List Value} {d:Nat} {v u:Value},setAt a d v=some a'->LRel ρ a us->VRel ρ v u->LRel ρ a' (us.set d u)
 | [],a',us,d,v,u,e,_,_=>by simp [setAt] at e
 | x::xs,a',us,0,v,u,e,hr,hv=>by
  simp [setAt] at e; subst e
  cases hr with
  | cons h1 h2=>exact .cons hv h2
 | x::xs,a',us,d+1,v,u,e,hr,hv=>by
  simp only [setAt] at e
  split at e
  ·rename_i ys ey
   simp at e; subst e
   cases hr with
   | cons h1 h2=>exact .cons h1 (setAt_rel ey h2 hv)
  ·cases e
theorem putAt_rel {ρ:Env} {a a':Slots} {act:Act} {d:Option Tmp} {v u:Value} (e:putAt a d v=some a') (hr:LRel ρ a act.tmps.toList) (hv:VRel ρ v u):LRel ρ a' (act.put d u).tmps.toList:=by
 cases d with
 | none=>simp [putAt] at e; subst e; exact hr
 | some d =>
  simp only [putAt] at e
  simp only [Act.put,Array.toList_setIfInBounds]
  exact setAt_rel e hr hv
theorem put_defers {act:Act} {d:Option Tmp} {u:Value}:(act.put d u).defers=act.defers:=by cases d <;> rfl
theorem wantedB_eq {ρ:Env} {a:Slots} {act:Act} {ops:Array Oper} {o:Oper} (hr:LRel ρ a act.tmps.toList) (hs:sureB ops.toList o a=true):wantedB ops.toList o a=Region.wanted o (yielded ops act.tmps):=by
 unfold sureB at hs
 unfold wantedB Region.wanted
 cases hg:o.guard with
 | none=>rfl
 | some g =>
  obtain ⟨j,want⟩:=g
  rw [hg] at hs
  simp only [yielded,Array.getElem?_toList] at hs ⊢
  cases hp:ops[j]? with
  | none=>rfl
  | some p =>
   rw [hp] at hs
   simp only [Option.bind_some] at hs ⊢
   cases hd:p.dst with
   | none=>rfl
   | some d =>
    rw [hd] at hs
    simp only [Option.bind_some] at hs ⊢
    cases ha:a[d]? with
    | none =>
     have hlen:=hr.length
     have:act.tmps[d]?=none:=by
      rw [List.getElem?_eq_none_iff] at ha
      rw [Array.getElem?_eq_none_iff]
      simp at hlen; omega
     rw [this]; rfl
    | some v =>
     obtain ⟨u,hu,hv⟩:=hr.get ha
     rw [Array.getElem?_toList] at hu
     rw [hu]
     rw [ha] at hs
     cases hv <;> first | (simp [isJ] at hs; done) | rfl | (rename_i b; cases b <;> cases want <;> rfl)
theorem sure_of_wanted {ops:List Oper} {o:Oper} {a:Slots} (h:wantedB ops o a=true):sureB ops o a=true:=by
 unfold wantedB at h
 unfold sureB
 cases hg:o.guard with
 | none=>rfl
 | some g =>
  obtain ⟨j,want⟩:=g
  rw [hg] at h
  simp only at h ⊢
  cases hp:ops[j]? with
  | none=>rfl
  | some p =>
   rw [hp] at h
   simp only at h ⊢
   cases hd:p.dst with
   | none=>rfl
   | some d =>
    rw [hd] at h
    simp only at h ⊢
    cases ha:a[d]? with
    | none=>rfl
    | some v =>
     rw [ha] at h
     cases v <;> first | rfl | (simp at h; done)
theorem skip_iff {ops:List Oper} {o:Oper} {a:Slots}:skipB ops o a=true↔wantedB ops o a=false/\sureB ops o a=true:=by
 unfold skipB; rw [Bool.and_eq_true,Bool.not_eq_true']
theorem runOps_sound {call:FuncId->List Value->AW->Option (Value × AW)} (hg:noGo P=true) (hc:Sound P call) (ops:Array Oper):∀ (rest:List Oper) (i:Nat) {a a':Slots} {h h':AW},ops.toList.drop i=rest->runOps P call ops.toList rest a h=some (a',h') →
  ∀ {ρ:Env} {act:Act} {w:World} {Q:Exit->Act->World->Prop},LRel ρ a act.tmps.toList->act.defers=[]->HRel P ρ h w →
  (∀ ρ' act' w',LRel ρ' a' act'.tmps.toList->act'.defers=[]->HRel P ρ' h' w'->Turn ρ h w ρ' h' w'->Q .normal act' w')->wpOps P ops Q (List.range' i rest.length) act w
 | [],i,a,a',h,h',_,e,ρ,act,w,Q,hr,hd,H,hQ=>by
  simp [runOps] at e
  obtain ⟨rfl,rfl⟩:=e
  exact hQ ρ act w hr hd H (Turn.refl _ _ _)
 | o::rest,i,a,a',h,h',hdrop,e,ρ,act,w,Q,hr,hd,H,hQ=>by
  have ho:ops[i]?=some o:=by
   rw [← Array.getElem?_toList]
   have:(ops.toList.drop i)[0]?=some o:=by rw [hdrop]; rfl
   rwa [List.getElem?_drop,Nat.add_zero] at this
  have hrest:ops.toList.drop (i+1)=rest:=by
   rw [← List.drop_drop,hdrop]; rfl
  simp only [List.length_cons,List.range'_succ,wpOps,ho]
  simp only [runOps] at e
  split at e
  case h_1 hw =>
   rw [← wantedB_eq hr (sure_of_wanted hw),hw,if_pos rfl]
   left
   split at e
   case h_1 v h₁ hop =>
    split at e
    case h_2=>cases e
    rename_i v' hv'
    have:=fv_eq hv'
    subst this
    split at e
    case h_2=>cases e
    rename_i a₁ hput
    obtain ⟨n,u,w₁,ρ₁,hrun,hn,hv,H₁,T₁⟩:=opB_sound hr H hop
    have hnext:=runOps_sound (Q:=Q) hg hc ops rest (i+1) hrest e (putAt_rel hput (hr.mono T₁.le) hv) (by rw [put_defers]; exact hd) H₁ (fun ρ' act' w' a b c d=>hQ ρ' act' w' a b c (T₁.trans d))
    unfold Oper.wp
    rw [hrun]
    rcases hn with rfl | ⟨rfl,rfl⟩ <;> exact hnext
   case h_2 f args hop =>
    split at e
    case h_2=>cases e
    rename_i v h₁ hcall
    split at e
    case h_2=>cases e
    rename_i a₁ hput
    obtain ⟨us,hus,hrun⟩:=opB_sound hr H hop
    obtain ⟨⟨fn,c,hf,hb⟩,hcalls⟩:=hc f args h v h₁ hcall
    unfold Oper.wp
    rw [hrun,run_callFunc hg hf hb]
    simp only [Oper.upon]
    refine (hcalls ρ us w hus H).mono ?_
    rintro en w₁ ⟨u,ρ₁,rfl,hv,H₁,T₁⟩
    exact runOps_sound (Q:=Q) hg hc ops rest (i+1) hrest e (putAt_rel hput (hr.mono T₁.le) hv) (by rw [put_defers]; exact hd) H₁ (fun ρ' act' w' a b c d=>hQ ρ' act' w' a b c (T₁.trans d))
   case h_3=>cases e
  case h_2 hw =>
   split at e
   case h_2=>cases e
   rename_i hsure
   rw [← wantedB_eq hr hsure,hw,if_neg (by simp)]
   split at e
   case h_2=>cases e
   rename_i a₁ hput
   exact runOps_sound (Q:=Q) hg hc ops rest (i+1) hrest e (putAt_rel hput hr undef_rel) (by rw [put_defers]; exact hd) H hQ
theorem wp_loop_n {c:Code} {Q:Exit->Act->World->Prop} (J:Nat->Act->World->Prop) {n:Nat} {a:Act} {w:World} (h₀:J n a w)
  (round:∀ n a w,J n a w->c.wp P (Exit.then (fun a' w'=>∃ m,m < n/\J m a' w') Q) a w):(Code.loop c).wp P Q a w:=by
 intro b k cs
 have key:∀ n a w,J n a w->∃ e a' w',Q e a' w'/\Arrives P (lone (b.at a (.code c::.inLoop c::k)) cs w) b k cs e a' w':=by
  intro n
  induction n using Nat.strongRecOn with
  | _ n ih =>
   intro a w hI
   obtain ⟨e,a₁,w₁,hq,harr⟩:=round n a w hI b (.inLoop c::k) cs
   cases e with
   | normal =>
    obtain ⟨m,hm,hJ⟩:=hq
    obtain ⟨e₂,a₂,w₂,hq₂,harr₂⟩:=ih m hm a₁ w₁ hJ
    exact ⟨e₂,a₂,w₂,hq₂,.of_steps (Steps.trans harr (.one step_inLoop)) harr₂⟩
   | exit id=>exact ⟨_,a₁,w₁,hq,.pass (x:=.inLoop c) rfl (fun _ _=>.inl (by simp)) harr⟩
   | goto l=>exact ⟨_,a₁,w₁,hq,.pass (x:=.inLoop c) rfl (fun _ _=>.inl (by simp)) harr⟩
   | ret=>exact ⟨_,a₁,w₁,hq,.pass (x:=.inLoop c) rfl (fun _ _=>.inl (by simp)) harr⟩
   | panic ch=>exact ⟨_,a₁,w₁,hq,.pass (x:=.inLoop c) rfl (fun _ _=>.inl (by simp)) harr⟩
   | outgrown=>exact ⟨_,a₁,w₁,hq,.pass (x:=.inLoop c) rfl (fun _ _=>.inl (by simp)) harr⟩
 obtain ⟨e,a',w',hq,harr⟩:=key n a w h₀
 exact ⟨e,a',w',hq,.of_steps (.one step_loop) harr⟩
end
end Go.Am
namespace Go.Am
section
variable {P:Program}
theorem evs_congr {a a':Slots}:∀ {xs:List Operand},(∀ x∈xs,aev a x=aev a' x)->evs a xs=evs a' xs
 | [],_=>rfl
 | x::xs,h=>by simp only [evs,h x (by simp),evs_congr (xs:=xs) (fun y hy=>h y (by simp [hy]))]
theorem evParts_congr {a a':Slots}:∀ {xs:List (Nat × Operand)},(∀ x∈xs.map (·.2),aev a x=aev a' x)->evParts a xs=evParts a' xs
 | [],_=>rfl
 | (i,x)::xs,h=>by simp only [evParts,h x (by simp),evParts_congr (xs:=xs) (fun y hy=>h y (by simp at hy ⊢; exact .inr hy))]
theorem opB_congr {a a':Slots} {o:Oper} {h:AW} (hx:∀ x∈o.op.operands,aev a x=aev a' x):opB P a o h=opB P a' o h:=by
 obtain ⟨dst,op,type,pos,after,guard⟩:=o
 cases op <;> simp only [Op.operands] at hx <;> simp only [opB]
 case build t ps=>rw [evParts_congr fun x hm=>hx x (by simpa using hm)]
 case buildSlice t n ps=>rw [evParts_congr fun x hm=>hx x (by simpa using hm)]
 case makeFunc fn first captured=>rw [evs_congr (xs:=first.toList) fun x hm=>hx x (by simp at hm; simp [hm]),evs_congr (xs:=captured.toList) fun x hm=>hx x (by simp at hm; simp [hm])]
 case slice t x lo hi mx=>cases lo <;> cases hi <;> cases mx <;> simp_all [optEv]
 case makeMap t r=>cases r <;> simp_all [optEv]
 case call c =>
  rw [evs_congr (xs:=c.args.toList) fun x hm=>hx x (by simp at hm; simp [Call.operands,hm])]
  cases evs a' c.args.toList with
  | none=>rfl
  | some args =>
   simp only [callOpB]
   cases hc:c.callee with
   | value f=>simp only [hx f (by simp [Call.operands,hc])]
   | invoke r m=>rfl
   | builtin b=>cases b <;> rfl
 all_goals (first | rfl | (simp_all; done))
theorem opB_read {a : Slots} {o : Oper} {h : AW} {res : Res} (hr : readOp P o.op = true) (e : opB P a o h = some res) : ∃ v, res = .val v h := by
  have key : ∀ {x : Option Value}, ret x h = some res → ∃ v, res = .val v h := fun e => by
    obtain ⟨v, _, rfl⟩ := ret_val e; exact ⟨v, rfl⟩
  unfold opB at e
  split at e
  case h_13 src dst x ho =>
    rw [ho] at hr
    split at e
    case h_2 => cases e
    obtain ⟨v, h', hv, rfl⟩ := ret2_val e
    refine ⟨v, ?_⟩
    simp only [readOp] at hr
    unfold convB at hv
    split at hv
    case h_3 h1 h2 h3 => rw [h1, h2] at hr; simp at hr
    all_goals (first | (cases hv; done) | skip)
    · simp at hv; rw [hv.2]
    · simp at hv; rw [hv.2]
    · split at hv
      · split at hv
        · simp at hv; rw [hv.2]
        · cases hv
      · cases hv
    · split at hv
      · simp at hv; rw [hv.2]
      · cases hv
    · split at hv
      · simp at hv; rw [hv.2]
      · split at hv
        · split at hv
          · split at hv
            · simp at hv; rw [hv.2]
            · cases hv
          · cases hv
        · cases hv
      · cases hv
    · split at hv
      · split at hv
        · simp at hv; rw [hv.2]
        · cases hv
      · cases hv
    · split at hv
      · split at hv
        · simp at hv; rw [hv.2]
        · cases hv
      · cases hv
  case h_23 c ho =>
    rw [ho] at hr
    simp only [readOp] at hr
    split at e
    case h_2 => cases e
    unfold callOpB at e
    split at e
    case h_1 hc => rw [hc] at hr; simp at hr
    case h_2 => exact key e
    case h_3 => split at e
                · exact key e
                · cases e
    case h_4 => split at e
                · exact key e
                · cases e
    case h_5 hc => rw [hc] at hr; simp at hr
    case h_6 hc => rw [hc] at hr; simp at hr
    case h_7 hc => rw [hc] at hr; simp at hr
    case h_8 hc => rw [hc] at hr; simp at hr
    case h_9 => exact key e
    case h_10 hc => rw [hc] at hr; simp at hr
    case h_11 hc => rw [hc] at hr; simp at hr
    case h_12 => cases e
  case h_4 ho => rw [ho] at hr; simp [readOp] at hr
  case h_5 ho => rw [ho] at hr; simp [readOp] at hr
  case h_7 ho => rw [ho] at hr; simp [readOp] at hr
  case h_9 ho => rw [ho] at hr; simp [readOp] at hr
  case h_16 ho => rw [ho] at hr; simp [readOp] at hr
  case h_25 ho => rw [ho] at hr; simp [readOp] at hr
  case h_26 ho => rw [ho] at hr; simp [readOp] at hr
  case h_27 ho => rw [ho] at hr; simp [readOp] at hr
  case h_28 ho => rw [ho] at hr; simp [readOp] at hr
  case h_29 ho => rw [ho] at hr; simp [readOp] at hr
  case h_30 => cases e
  case h_10 => split at e
               · simp at e; exact ⟨_, e.symm⟩
               · cases e
  case h_14 => split at e
               · cases e
               · simp at e; exact ⟨_, e.symm⟩
               · cases e
  case h_15 => split at e
               · split at e
                 · simp at e; exact ⟨_, e.symm⟩
                 · cases e
               · cases e
  all_goals (first | exact key e | (split at e <;> first | exact key e | (cases e; done) | (split at e <;> first | exact key e | (cases e; done))))
theorem sameFlat_eq {x y:Value} (e:sameFlat x y=true):x=y:=by
 unfold sameFlat at e
 split at e
 ·simpa using e
 ·simp only [Bool.and_eq_true,ieqB_eq,beq_iff_eq] at e; rw [e.1,e.2]
 ·rename_i a b
  rw [bytesEq_eq] at e
  have:a.data.toList=b.data.toList:=by simpa using e
  have:a=b:=by apply ByteArray.ext; exact Array.ext' this
  rw [this]
 ·rfl
 ·simp only [Bool.and_eq_true] at e; rw [of_beq e.1,of_beq e.2]
 ·simp only [Bool.and_eq_true] at e; rw [of_beq e.1,of_beq e.2]
 ·simp only [Bool.and_eq_true] at e; rw [of_beq e.1.1,of_beq e.1.2,of_beq e.2.1,of_beq e.2.2]
 ·rfl
 ·rw [of_beq e]
 ·rfl
 ·rfl
 ·cases e
theorem sameAll_eq:∀ {xs ys:List Value},sameAll xs ys=true->xs=ys
 | [],[],_=>rfl
 | [],_::_,e=>by simp [sameAll] at e
 | _::_,[],e=>by simp [sameAll] at e
 | x::xs,y::ys,e=>by
  simp only [sameAll,Bool.and_eq_true] at e
  rw [sameFlat_eq e.1,sameAll_eq e.2]
theorem sameB_eq {x y:Value} (e:sameB x y=true):x=y:=by
 unfold sameB at e
 split at e
 ·rw [Array.ext' (sameAll_eq e)]
 ·rw [Array.ext' (sameAll_eq e)]
 ·simp only [Bool.and_eq_true] at e; rw [of_beq e.1,sameFlat_eq e.2]
 ·simp only [Bool.and_eq_true] at e; rw [of_beq e.1,Array.ext' (sameAll_eq e.2.1),Array.ext' (sameAll_eq e.2.2)]
 ·exact sameFlat_eq e
theorem go_spec {acc:List Nat}:∀ {es:List Edge} {m:Nat},masksB.go acc es=some m->∀ j,m.testBit j=true->∃ e∈es,Region.binds .any e=true/\(e.on=j∨∃ k,acc[e.on]?=some k/\k.testBit j=true)
 | [],m,h,j,hj=>by simp [masksB.go] at h; subst h; simp at hj
 | e::es,m,h,j,hj=>by
  simp only [masksB.go] at h
  split at h
  case h_2=>cases h
  rename_i m' hm'
  split at h
  ·rename_i hb
   split at h
   case h_2=>cases h
   rename_i k hk
   simp at h; subst h
   rw [Nat.testBit_or,Nat.testBit_or,Nat.testBit_two_pow] at hj
   simp only [Bool.or_eq_true,decide_eq_true_eq] at hj
   rcases hj with hj | hj | hj
   ·obtain ⟨e',he',r⟩:=go_spec hm' j hj
    exact ⟨e',by simp [he'],r⟩
   ·exact ⟨e,by simp,hb,.inl hj⟩
   ·exact ⟨e,by simp,hb,.inr ⟨k,hk,hj⟩⟩
  ·simp at h; subst h
   obtain ⟨e',he',r⟩:=go_spec hm' j hj
   exact ⟨e',by simp [he'],r⟩
theorem masks_spec:∀ {ops:List Oper} {acc ms:List Nat},masksB ops acc=some ms->(∃ tail,ms=acc++tail/\tail.length=ops.length) /\
  ∀ i o,ops[i]?=some o->∀ j,(mask ms (acc.length+i)).testBit j=true->∃ e∈o.after.toList,Region.binds .any e=true/\(e.on=j∨(mask ms e.on).testBit j=true)
 | [],acc,ms,h=>by
  simp [masksB] at h; subst h
  exact ⟨⟨[],by simp⟩,fun i o hi=>by simp at hi⟩
 | o::rest,acc,ms,h=>by
  simp only [masksB] at h
  split at h
  case h_2=>cases h
  rename_i m hm
  split at h
  case h_2=>cases h
  rename_i acc' hacc
  have hacc:=join_eq hacc
  subst hacc
  obtain ⟨⟨tail,htail,hlen⟩,hrest⟩:=masks_spec h
  refine ⟨⟨m::tail,by simp [htail],by simp [hlen]⟩,fun i o' hi j hj=>?_⟩
  cases i with
  | zero =>
   simp at hi; subst hi
   have hmask:mask ms (acc.length+0)=m:=by
    unfold mask
    rw [htail,Nat.add_zero,List.append_assoc,List.getElem?_append_right (Nat.le_refl _)]
    simp
   rw [hmask] at hj
   obtain ⟨e,he,hb,hor⟩:=go_spec hm j hj
   refine ⟨e,he,hb,hor.imp id ?_⟩
   rintro ⟨k,hk,hkj⟩
   have hlt:=(List.getElem?_eq_some_iff.1 hk).1
   have:mask ms e.on=k:=by
    unfold mask
    rw [htail,List.append_assoc,List.getElem?_append_left hlt,hk]
   rwa [this]
  | succ i =>
   simp at hi
   refine hrest i o' hi j ?_
   have:(acc++[m]).length+i=acc.length+(i+1):=by simp; omega
   rwa [this]
theorem backB_spec:∀ {ops:List Oper} {k:Nat},backB ops k=true->∀ i o,ops[i]?=some o->∀ e∈o.after.toList,Region.binds .any e=true->e.on < k+i
 | [],k,_,i,o,hi=>by simp at hi
 | o::rest,k,h,i,o',hi=>by
  simp only [backB] at h
  split at h
  case h_2=>cases h
  rename_i hall
  cases i with
  | zero =>
   simp at hi; subst hi
   intro e he hbe
   have:=List.all_eq_true.1 hall e he
   rw [hbe] at this
   have:=of_ble this
   omega
  | succ i =>
   simp at hi
   intro e he hbe
   have:=backB_spec h i o' hi e he hbe
   omega
theorem closed_ahead {ops:List Oper} {ms:List Nat} (hm:masksB ops []=some ms) (hb:backB ops 0=true) {S:Nat->Prop}
  (hS:∀ i o,S i->ops[i]?=some o->∀ e∈o.after.toList,Region.binds .any e=true->S e.on) :
  ∀ i o,ops[i]?=some o->(∀ e∈o.after.toList,Region.binds .any e=true->S e.on)->∀ j,ahead ms i j=true->S j:=by
 intro i
 induction i using Nat.strongRecOn with
 | _ i ih =>
  intro o ho hd j hj
  obtain ⟨e,he,hbe,hor⟩:=(masks_spec hm).2 i o ho j (by simpa [ahead] using hj)
  rcases hor with rfl | hor
  ·exact hd e he hbe
  ·have hlt:=backB_spec hb i o ho e he hbe
   have hSe:=hd e he hbe
   have hin:∃ o',ops[e.on]?=some o':=by
    have:=(List.getElem?_eq_some_iff.1 ho).1
    exact ⟨ops[e.on]'(by omega),List.getElem?_eq_getElem (by omega)⟩
   obtain ⟨o',ho'⟩:=hin
   exact ih e.on (by omega) o' ho' (fun e' he' hb'=>hS e.on o' hSe ho' e' he' hb') j hor
theorem countB_mono {p q:Nat->Bool}:∀ {ops:List Oper} {k:Nat},(∀ j,p j=true->q j=true)->countB P p ops k<=countB P q ops k
 | [],k,_=>Nat.le_refl _
 | o::rest,k,h=>by
  have ih:=countB_mono (ops:=rest) (k:=k+1) h
  simp only [countB]
  split
  ·exact ih
  ·cases hp:p k with
   | true=>rw [h k hp]; simp only; omega
   | false=>cases q k <;> simp only <;> omega
theorem countB_congr {p q:Nat->Bool}:∀ {ops:List Oper} {k:Nat},(∀ j,k<=j->p j=q j)->countB P p ops k=countB P q ops k
 | [],k,_=>rfl
 | o::rest,k,h=>by
  have ih:=countB_congr (ops:=rest) (k:=k+1) (fun j hj=>h j (by omega))
  simp only [countB]
  rw [ih,h k (Nat.le_refl _)]
theorem countB_add {p q:Nat->Bool} {n:Nat} (hq:∀ j,q j=if j=n then true else p j) (hp:p n=false):∀ {ops:List Oper} {k:Nat},k<=n->∀ {o:Oper},ops[n - k]?=some o →
  countB P q ops k=countB P p ops k+(if readOp P o.op=true then 0 else 1)
 | [],k,_,o,ho=>by simp at ho
 | o'::rest,k,hk,o,ho=>by
  by_cases hkn:k=n
  ·subst hkn
   simp at ho; subst ho
   have:countB P q rest (k+1)=countB P p rest (k+1):=countB_congr fun j hj=>by rw [hq,if_neg (by omega)]
   simp only [countB,this,hq k,if_pos,hp]
   cases readOp P o'.op <;> simp
  ·have hs:n - k=(n - (k+1))+1:=by omega
   rw [hs] at ho
   simp at ho
   have ih:=countB_add hq hp (ops:=rest) (k:=k+1) (by omega) ho
   have hqk:q k=p k:=by rw [hq,if_neg hkn]
   simp only [countB,ih,hqk]
   cases readOp P o'.op <;> cases p k <;> simp <;> omega
def lookW (p:Nat->Bool) (t:Nat):List Oper->List (Slots × Value)->Nat->Option Value
 | o::os,(_,v)::tr,j=>if o.dst=some t/\p j=true then some v else lookW p t os tr (j+1)
 | _,_,_=>none
def slotAt (p:Nat->Bool) (ops:List Oper) (tr:List (Slots × Value)) (a:Slots) (t:Nat):Option Value :=
 match lookW p t ops tr 0 with
 | some v=>some v
 | none=>a[t]?
theorem hasNat_mem:∀ {xs:List Nat} {n:Nat},hasNat xs n=true↔n∈xs
 | [],n=>by simp [hasNat]
 | x::xs,n=>by
  simp only [hasNat]
  split
  ·rename_i hb; have:=of_beq hb; simp [this]
  ·rename_i hb; have:=of_beq_f hb
   rw [hasNat_mem]
   exact ⟨fun h=>List.mem_cons_of_mem _ h,fun h=>(List.mem_cons.1 h).resolve_left (fun e=>this e.symm)⟩
theorem mem_dsts:∀ {ops:List Oper} {i:Nat} {o:Oper} {d:Nat},ops[i]?=some o->o.dst=some d->d∈dstsB ops
 | [],i,o,d,h,_=>by simp at h
 | p::ps,0,o,d,h,hd=>by simp at h; subst h; simp [dstsB,hd]
 | p::ps,i+1,o,d,h,hd=>by
  simp at h
  have:=mem_dsts h hd
  simp only [dstsB]
  split
  ·simp [this]
  ·exact this
theorem once_spec:∀ {ops:List Oper},onceB (dstsB ops)=true->∀ (i j:Nat) (o o':Oper) (d:Nat),ops[i]?=some o->ops[j]?=some o'->o.dst=some d->o'.dst=some d->i=j
 | [],_,i,j,o,o',d,h,_,_,_=>by simp at h
 | p::ps,hon,i,j,o,o',d,hi,hj,hd,hd'=>by
  have htail:onceB (dstsB ps)=true:=by
   simp only [dstsB] at hon
   split at hon
   ·simp only [onceB] at hon
    split at hon
    ·cases hon
    ·exact hon
   ·exact hon
  have hhead:∀ d,p.dst=some d->d ∉ dstsB ps:=fun d hpd hm=>by
   simp only [dstsB,hpd,onceB] at hon
   rw [hasNat_mem.2 hm] at hon
   cases hon
  cases i with
  | zero =>
   simp at hi; subst hi
   cases j with
   | zero=>rfl
   | succ j=>simp at hj; exact absurd (mem_dsts hj hd') (hhead d hd)
  | succ i =>
   simp at hi
   cases j with
   | zero=>simp at hj; subst hj; exact absurd (mem_dsts hi hd) (hhead d hd')
   | succ j=>simp at hj; rw [once_spec htail i j o o' d hi hj hd hd']
theorem lookW_none {p:Nat->Bool} {t:Nat}:∀ {ops:List Oper} {tr:List (Slots × Value)} {k:Nat},(∀ (i:Nat) (o:Oper),ops[i]?=some o->o.dst=some t->p (k+i)=false)->lookW p t ops tr k=none
 | [],_,_,_=>by simp [lookW]
 | _::_,[],_,_=>by simp [lookW]
 | o::os,(a,v)::tr,k,h=>by
  simp only [lookW]
  rw [if_neg (fun hh=>by have:=h 0 o rfl hh.1; simp [hh.2] at this)]
  exact lookW_none fun i o' hi hd=>by have:=h (i+1) o' (by simpa using hi) hd; rwa [show k+(i+1)=k+1+i by omega] at this
theorem lookW_congr {p q:Nat->Bool} {t:Nat}:∀ {ops:List Oper} {tr:List (Slots × Value)} {k:Nat},(∀ (i:Nat) (o:Oper),ops[i]?=some o->o.dst=some t->p (k+i)=q (k+i))->lookW p t ops tr k=lookW q t ops tr k
 | [],_,_,_=>by simp [lookW]
 | _::_,[],_,_=>by simp [lookW]
 | o::os,(a,v)::tr,k,h=>by
  simp only [lookW]
  have ih:=lookW_congr (p:=p) (q:=q) (t:=t) (ops:=os) (tr:=tr) (k:=k+1) fun i o' hi hd=>by have:=h (i+1) o' (by simpa using hi) hd; rwa [show k+(i+1)=k+1+i by omega] at this
  rw [ih]
  by_cases hd:o.dst=some t
  ·have:=h 0 o rfl hd
   simp only [Nat.add_zero] at this
   rw [this]
  ·rw [if_neg (fun hh=>hd hh.1),if_neg (fun hh=>hd hh.1)]
theorem lookW_at {p:Nat->Bool} {t:Nat}:∀ {ops:List Oper} {tr:List (Slots × Value)} {k i:Nat} {o:Oper} {x:Slots × Value},(∀ (i j:Nat) (o o':Oper) (d:Nat),ops[i]?=some o->ops[j]?=some o'->o.dst=some d->o'.dst=some d->i=j) →
  ops[i]?=some o->tr[i]?=some x->o.dst=some t->p (k+i)=true->lookW p t ops tr k=some x.2
 | [],_,_,_,_,_,_,h,_,_,_=>by simp at h
 | _::_,[],_,_,_,_,_,_,h,_,_=>by simp at h
 | o'::os,(a,v)::tr,k,0,o,x,hu,h1,h2,hd,hp=>by
  simp at h1 h2; subst h1 h2
  simp only [lookW]
  rw [if_pos ⟨hd,by simpa using hp⟩]
 | o'::os,(a,v)::tr,k,i+1,o,x,hu,h1,h2,hd,hp=>by
  simp only [lookW]
  have hne:¬ (o'.dst=some t/\p k=true):=fun hh=>by
   have:=hu 0 (i+1) o' o t rfl h1 hh.1 hd
   omega
  rw [if_neg hne]
  simp at h1 h2
  exact lookW_at (fun i j o o' d a b c e=>by have:=hu (i+1) (j+1) o o' d (by simpa using a) (by simpa using b) c e; omega) h1 h2 hd (by rwa [show k+1+i=k+(i+1) by omega])
theorem setAt_get:∀ {a a':Slots} {d:Nat} {v:Value},setAt a d v=some a'->a'.length=a.length/\d < a.length/\∀ t,a'[t]?=if t=d then some v else a[t]?
 | [],a',d,v,e=>by simp [setAt] at e
 | x::xs,a',0,v,e=>by
  simp [setAt] at e; subst e
  refine ⟨rfl,by simp,fun t=>?_⟩
  cases t <;> simp
 | x::xs,a',d+1,v,e=>by
  simp only [setAt] at e
  split at e
  ·rename_i ys ey
   simp at e; subst e
   obtain ⟨h1,h2,h3⟩:=setAt_get ey
   refine ⟨by simp [h1],by simp; omega,fun t=>?_⟩
   cases t with
   | zero=>simp
   | succ t=>simp [h3]
  ·cases e
end
end Go.Am
namespace Go.Am
section
variable {P:Program}
theorem countB_shift {p:Nat->Bool}:∀ {ops:List Oper} {k:Nat},countB P p ops (k+1)=countB P (fun j=>p (j+1)) ops k
 | [],k=>rfl
 | o::rest,k=>by simp only [countB]; rw [countB_shift (k:=k+1)]
theorem lookW_shift {p:Nat->Bool} {t:Nat}:∀ {ops:List Oper} {tr:List (Slots × Value)} {k:Nat},lookW p t ops tr (k+1)=lookW (fun j=>p (j+1)) t ops tr k
 | [],_,_=>by simp [lookW]
 | _::_,[],_=>by simp [lookW]
 | o::os,(a,v)::tr,k=>by simp only [lookW]; rw [lookW_shift (k:=k+1)]
theorem putAt_get {a a':Slots} {d:Option Tmp} {v:Value} (e:putAt a d v=some a'):a'.length=a.length/\(∀ x,d=some x->x < a.length)/\∀ t,a'[t]?=if d=some t then some v else a[t]?:=by
 cases d with
 | none=>simp [putAt] at e; subst e; exact ⟨rfl,fun x h=>(by cases h),fun t=>(by simp)⟩
 | some d =>
  obtain ⟨h1,h2,h3⟩:=setAt_get (by simpa [putAt] using e)
  refine ⟨h1,fun x hx=>(by simp at hx; subst hx; exact h2),fun t=>?_⟩
  rw [h3]
  by_cases ht:t=d
  ·subst ht; simp
  ·rw [if_neg ht,if_neg (fun hh=>ht (by simp at hh; exact hh.symm))]
def Once (ops:List Oper):Prop:=∀ (i j:Nat) (o o':Oper) (d:Nat),ops[i]?=some o->ops[j]?=some o'->o.dst=some d->o'.dst=some d->i=j
theorem canon_spec {call:FuncId->List Value->AW->Option (Value × AW)} {all:List Oper}:∀ {rest:List Oper} {a af:Slots} {h:AW} {tr:List (Slots × Value)} {hs:List AW},Once rest->canon P call all rest a h=some (tr,hs,af) →
  hs[0]?=some h/\(∃ hl,lastB hs=some hl/\hs[countB P (fun _=>true) rest 0]?=some hl)/\af.length=a.length/\(∀ t,af[t]?=slotAt (fun _=>true) rest tr a t) /\
  ∀ p o,rest[p]?=some o->∃ ap vp,tr[p]?=some (ap,vp)/\ap.length=a.length/\(∀ t,ap[t]?=slotAt (fun j=>decide (j < p)) rest tr a t)/\(∀ d,o.dst=some d->d < a.length) /\
   (wantedB all o ap=false->vp=undef/\sureB all o ap=true) /\
   (readOp P o.op=false->∃ h1 h2,hs[countB P (fun j=>decide (j < p)) rest 0]?=some h1/\hs[countB P (fun j=>decide (j < p)) rest 0+1]?=some h2 /\
    (wantedB all o ap=true->stepB P call ap o h1=some (vp,h2))/\(wantedB all o ap=false->h2=h1))
 | [],a,af,h,tr,hs,hu,e=>by
  simp [canon] at e
  obtain ⟨rfl,rfl,rfl⟩:=e
  exact ⟨rfl,⟨h,rfl,rfl⟩,rfl,fun t=>by simp [slotAt,lookW],fun p o hp=>by simp at hp⟩
 | o::rest,a,af,h,tr,hs,hu,e=>by
  simp only [canon] at e
  split at e
  case h_2=>cases e
  rename_i v h' hstep
  split at e
  case h_2=>cases e
  rename_i a' hput
  obtain ⟨hal,had,hag⟩:=putAt_get hput
  have hu':Once rest:=fun i j o o' d a b c e=>by have:=hu (i+1) (j+1) o o' d (by simpa using a) (by simpa using b) c e; omega
  -- what stands in the slots behind this operation
  have hslot:∀ {tr':List (Slots × Value)} {q:Nat->Bool} (t:Nat),q 0=true->slotAt (fun j=>q (j+1)) rest tr' a' t=slotAt q (o::rest) ((a,v)::tr') a t:=by
   intro tr' q t hq
   unfold slotAt
   simp only [lookW,hq,and_true]
   rw [lookW_shift]
   by_cases hd:o.dst=some t
   ·rw [if_pos hd,lookW_none (fun i o' hi hd'=>by have:=hu 0 (i+1) o o' t rfl (by simpa using hi) hd hd'; omega)]
    simp [hag,hd]
   ·rw [if_neg hd,hag,if_neg hd]
  have hzero:∀ {tr':List (Slots × Value)} (t:Nat),a[t]?=slotAt (fun j=>decide (j < 0)) (o::rest) ((a,v)::tr') a t:=fun {tr'} t=>by
   unfold slotAt
   rw [lookW_none (fun i o' _ _=>by simp)]
  have hwant:(wantedB all o a=false->(v=undef/\sureB all o a=true)/\h'=h)/\(wantedB all o a=true->stepB P call a o h=some (v,h')):=by
   constructor
   ·intro hw
    rw [hw] at hstep
    simp only at hstep
    split at hstep
    ·rename_i hsure
     simp at hstep; exact ⟨⟨hstep.1.symm,hsure⟩,hstep.2.symm⟩
    ·cases hstep
   ·intro hw; rw [hw] at hstep; exact hstep
  split at e
  case h_1 hread =>
   split at e
   case h_2=>cases e
   rename_i tr' hs' af' hc
   simp at e
   obtain ⟨rfl,rfl,rfl⟩:=e
   obtain ⟨i1,⟨hl,i2,i3⟩,i4,i5,i6⟩:=canon_spec hu' hc
   refine ⟨i1,⟨hl,i2,?_⟩,i4.trans hal,fun t=>by rw [i5]; exact hslot (q:=fun _=>true) t rfl,fun p o' hp=>?_⟩
   ·simp only [countB,hread]; rw [countB_shift]; exact i3
   ·cases p with
    | zero =>
     simp at hp; subst hp
     exact ⟨a,v,rfl,rfl,hzero,had,fun hw=>(hwant.1 hw).1,fun hr=>by rw [hread] at hr; cases hr⟩
    | succ p =>
     simp at hp
     obtain ⟨ap,vp,j1,j2,j3,j4,j5,j6⟩:=i6 p o' hp
     have hcnt:countB P (fun j=>decide (j < p+1)) (o::rest) 0=countB P (fun j=>decide (j < p)) rest 0:=by
      simp only [countB,hread]; rw [countB_shift]; simp
     refine ⟨ap,vp,by simpa using j1,j2.trans hal,fun t=>?_,fun d hd=>by have:=j4 d hd; omega,j5,by rw [hcnt]; exact j6⟩
     rw [j3,← hslot t (by simp)]; simp
  case h_2 hread =>
   split at e
   case h_2=>cases e
   rename_i tr' hs' af' hc
   simp at e
   obtain ⟨rfl,rfl,rfl⟩:=e
   obtain ⟨i1,⟨hl,i2,i3⟩,i4,i5,i6⟩:=canon_spec hu' hc
   have hne:hs'≠[]:=by intro hh; rw [hh] at i1; simp at i1
   refine ⟨rfl,⟨hl,?_,?_⟩,i4.trans hal,fun t=>by rw [i5]; exact hslot (q:=fun _=>true) t rfl,fun p o' hp=>?_⟩
   ·cases hs' with
    | nil=>exact absurd rfl hne
    | cons x xs=>simpa [lastB] using i2
   ·simp only [countB,hread]; rw [countB_shift]; simpa using i3
   ·cases p with
    | zero =>
     simp at hp; subst hp
     refine ⟨a,v,rfl,rfl,hzero,had,fun hw=>(hwant.1 hw).1,fun _=>?_⟩
     have hcnt:countB P (fun j=>decide (j < 0)) (o::rest) 0=0:=by
      have:∀ (ops:List Oper) (k:Nat),countB P (fun j=>decide (j < 0)) ops k=0:=by
       intro ops
       induction ops with
       | nil=>intro k; rfl
       | cons o ops ih=>intro k; simp only [countB,ih]; cases readOp P o.op <;> simp
      exact this _ _
     rw [hcnt]
     exact ⟨h,h',rfl,by simpa using i1,hwant.2,fun hw=>(hwant.1 hw).2⟩
    | succ p =>
     simp at hp
     obtain ⟨ap,vp,j1,j2,j3,j4,j5,j6⟩:=i6 p o' hp
     have hcnt:countB P (fun j=>decide (j < p+1)) (o::rest) 0=countB P (fun j=>decide (j < p)) rest 0+1:=by
      simp only [countB,hread]; rw [countB_shift]; simp
     refine ⟨ap,vp,by simpa using j1,j2.trans hal,fun t=>?_,fun d hd=>by have:=j4 d hd; omega,j5,by rw [hcnt]; simpa using j6⟩
     rw [j3,← hslot t (by simp)]; simp
theorem anywhere_spec {a:Slots} {o:Oper} {v:Value} {lo hi:Nat}:∀ {hs:List AW} {k₀:Nat},anywhere P a o v lo hi hs k₀=true->∀ k h,hs[k]?=some h->lo<=k₀+k->k₀+k<=hi->∃ h'',opB P a o h=some (.val v h'')
 | [],k₀,e,k,h,hk,_,_=>by simp at hk
 | h₀::hs,k₀,e,k,h,hk,h1,h2=>by
  simp only [anywhere] at e
  split at e
  case h_2=>cases e
  rename_i hin
  cases k with
  | zero =>
   simp at hk; subst hk
   have hb:(Nat.ble lo k₀ && Nat.ble k₀ hi)=true:=by
    rw [Nat.ble_eq_true_of_le (by omega),Nat.ble_eq_true_of_le (by omega)]; rfl
   rw [hb] at hin
   simp only at hin
   split at hin
   case h_2=>cases hin
   rename_i u h'' hop
   split at hin
   case h_2=>cases hin
   rename_i u' hu'
   have:=fv_eq hu'
   subst this
   have:=sameB_eq hin
   subst this
   exact ⟨h'',hop⟩
  | succ k =>
   simp at hk
   exact anywhere_spec e k h hk (by omega) (by omega)
theorem agree_spec {ms:List Nat} {all:List Oper} {hs:List AW}:∀ {rest:List Oper} {tr:List (Slots × Value)} {i:Nat},agree P ms all hs rest tr i=true->∀ p o a v,rest[p]?=some o->tr[p]?=some (a,v) →
  (readOp P o.op=true->wantedB all o a=true->∀ k h,hs[k]?=some h->leastOf P ms all (i+p)<=k->k<=mostOf P ms all (i+p)->∃ h'',opB P a o h=some (.val v h''))/\(readOp P o.op=false->leastOf P ms all (i+p)=mostOf P ms all (i+p))
 | [],tr,i,e,p,o,a,v,hp,_=>by simp at hp
 | _::_,[],i,e,p,o,a,v,_,ht=>by simp at ht
 | o'::rest,(a',v')::tr,i,e,p,o,a,v,hp,ht=>by
  simp only [agree] at e
  split at e
  case h_2=>cases e
  rename_i hin
  cases p with
  | zero =>
   simp at hp ht
   obtain ⟨rfl,rfl⟩:=ht
   subst hp
   constructor
   ·intro hr hw k h hk h1 h2
    rw [hr] at hin
    simp only at hin
    rw [hw] at hin
    exact anywhere_spec hin k h hk (by simpa using h1) (by simpa using h2)
   ·intro hr
    rw [hr] at hin
    exact of_beq hin
  | succ p =>
   simp at hp ht
   have:=agree_spec e p o a v hp ht
   rwa [show i+1+p=i+(p+1) by omega] at this
theorem sortedB_spec {ms ls:List Nat} {i:Nat}:∀ {ops:List Oper} {k:Nat},sortedB ms ls i ops k=true->∀ p q d,ops[p]?=some q->q.dst=some d->d∈ls->k+p≠i->(k+p < i->ahead ms i (k+p)=true)/\(i < k+p->ahead ms (k+p) i=true)
 | [],k,_,p,q,d,hp,_,_,_=>by simp at hp
 | q'::ops,k,e,p,q,d,hp,hd,hm,hne=>by
  simp only [sortedB] at e
  split at e
  case h_2=>cases e
  rename_i hin
  cases p with
  | zero =>
   simp at hp; subst hp
   rw [hd] at hin
   simp only [hasNat_mem.2 hm] at hin
   rw [beq_false (by simpa using hne)] at hin
   simp only at hin
   constructor
   ·intro hlt
    rw [Nat.ble_eq_true_of_le (by omega)] at hin
    simpa using hin
   ·intro hlt
    have:Nat.ble (k+1) i=false:=by
     cases hb:Nat.ble (k+1) i with
     | false=>rfl
     | true=>have:=of_ble hb; omega
    rw [this] at hin
    simpa using hin
  | succ p =>
   simp at hp
   have:=sortedB_spec e p q d hp hd hm (by omega)
   rwa [show k+1+p=k+(p+1) by omega] at this
theorem allSorted_spec {ms:List Nat} {all:List Oper}:∀ {rest:List Oper} {i:Nat},allSorted ms all rest i=true->∀ p o,rest[p]?=some o->∀ j q d,all[j]?=some q->q.dst=some d->d∈looksB all o->j≠i+p →
  (j < i+p->ahead ms (i+p) j=true)/\(i+p < j->ahead ms j (i+p)=true)
 | [],i,_,p,o,hp=>by simp at hp
 | o'::rest,i,e,p,o,hp=>by
  simp only [allSorted] at e
  split at e
  case h_2=>cases e
  rename_i hin
  cases p with
  | zero =>
   simp at hp; subst hp
   intro j q d hj hd hm hne
   have:=sortedB_spec hin j q d hj hd hm (by simpa using hne)
   simpa using this
  | succ p =>
   simp at hp
   intro j q d hj hd hm hne
   have:=allSorted_spec e p o hp j q d hj hd hm (by omega)
   rwa [show i+1+p=i+(p+1) by omega] at this
theorem tmpsOf_mem:∀ {xs:List Operand} {t:Nat},.tmp t∈xs->t∈tmpsOf xs
 | [],t,h=>by simp at h
 | x::xs,t,h=>by
  cases x with
  | tmp u =>
   simp only [tmpsOf,List.mem_cons]
   simp only [List.mem_cons,Operand.tmp.injEq] at h
   exact h.imp id tmpsOf_mem
  | _=>simp only [List.mem_cons,reduceCtorEq,false_or] at h; exact (show t∈tmpsOf xs from tmpsOf_mem h)
theorem looksB_operand {all:List Oper} {o:Oper} {t:Nat} (h:Operand.tmp t∈o.op.operands):t∈looksB all o:=by
 have hm:t∈tmpsOf o.op.operands.toList:=tmpsOf_mem (by simpa using h)
 unfold looksB
 split
 ·exact hm
 ·split
  ·split
   ·exact List.mem_cons_of_mem _ hm
   ·exact hm
  ·exact hm
theorem looksB_guard {all:List Oper} {o p:Oper} {g d:Nat} {want:Bool} (h:o.guard=some (g,want)) (hp:all[g]?=some p) (hd:p.dst=some d):d∈looksB all o:=by
 unfold looksB
 rw [h]
 simp [hp,hd]
theorem wantedB_congr {all:List Oper} {o:Oper} {a a':Slots} (h:∀ t,t∈looksB all o->a[t]?=a'[t]?):wantedB all o a=wantedB all o a':=by
 unfold wantedB
 cases hg:o.guard with
 | none=>rfl
 | some gw =>
  obtain ⟨g,want⟩:=gw
  simp only
  cases hp:all[g]? with
  | none=>rfl
  | some p =>
   simp only
   cases hd:p.dst with
   | none=>rfl
   | some d=>simp only [h d (looksB_guard hg hp hd)]
theorem sureB_congr {all:List Oper} {o:Oper} {a a':Slots} (h:∀ t,t∈looksB all o->a[t]?=a'[t]?):sureB all o a=sureB all o a':=by
 unfold sureB
 cases hg:o.guard with
 | none=>rfl
 | some gw =>
  obtain ⟨g,want⟩:=gw
  simp only
  cases hp:all[g]? with
  | none=>rfl
  | some p =>
   simp only
   cases hd:p.dst with
   | none=>rfl
   | some d=>simp only [h d (looksB_guard hg hp hd)]
theorem aev_congr {o:Oper} {all:List Oper} {a a':Slots} (h:∀ t,t∈looksB all o->a[t]?=a'[t]?):∀ x∈o.op.operands,aev a x=aev a' x:=by
 intro x hx
 cases x with
 | tmp t=>exact h t (looksB_operand hx)
 | const v=>rfl
 | global g=>rfl
 | func f=>rfl
theorem cnt_lt {p q:Nat->Bool}:∀ {l:List Nat},(∀ x,q x=true->p x=true)->(∃ x∈l,p x=true/\q x=false)->(l.filter q).length < (l.filter p).length
 | [],_,⟨x,hx,_⟩=>by simp at hx
 | y::l,h,⟨x,hx,h1,h2⟩=>by
  have hle:(l.filter q).length<=(l.filter p).length:=by
   clear hx
   induction l with
   | nil=>simp
   | cons z l ih =>
    simp only [List.filter_cons]
    cases hq:q z with
    | true=>rw [h z hq]; simpa using ih
    | false=>cases p z <;> simp <;> omega
  simp only [List.filter_cons]
  rcases List.mem_cons.1 hx with rfl | hx
  ·rw [h1,h2]; simp; omega
  ·have:=cnt_lt h ⟨x,hx,h1,h2⟩
   cases hq:q y with
   | true=>rw [h y hq]; simpa using this
   | false=>cases p y <;> simp <;> omega
end
end Go.Am
namespace Go.Am
section
variable {P:Program}
theorem countB_congr_lt {p q:Nat->Bool}:∀ {ops:List Oper} {k:Nat},(∀ j,k<=j->j < k+ops.length->p j=q j)->countB P p ops k=countB P q ops k
 | [],k,_=>rfl
 | o::rest,k,h=>by
  have ih:=countB_congr_lt (ops:=rest) (k:=k+1) (fun j h1 h2=>h j (by omega) (by simp; omega))
  simp only [countB]
  rw [ih,h k (Nat.le_refl _) (by simp)]
theorem slotAt_congr {p q:Nat->Bool} {ops:List Oper} {tr:List (Slots × Value)} {a:Slots} {t:Nat} (h:∀ i o,ops[i]?=some o->o.dst=some t->p i=q i):slotAt p ops tr a t=slotAt q ops tr a t:=by
 unfold slotAt
 rw [lookW_congr (k:=0) fun i o hi hd=>by simpa using h i o hi hd]
theorem slotAt_here {p:Nat->Bool} {ops:List Oper} {tr:List (Slots × Value)} {a:Slots} {i t:Nat} {o:Oper} {x:Slots × Value} (hu:Once ops) (ho:ops[i]?=some o) (hx:tr[i]?=some x) (hd:o.dst=some t) (hp:p i=true):slotAt p ops tr a t=some x.2:=by
 unfold slotAt
 rw [lookW_at hu ho hx hd (by simpa using hp)]
def lst (listed:Array Bool) (j:Nat):Bool:=listed.getD j false
theorem lst_set {listed:Array Bool} {i j:Nat} (hi:i < listed.size):lst (listed.setIfInBounds i true) j=if j=i then true else lst listed j:=by
 unfold lst
 rw [Array.getD_eq_getD_getElem?,Array.getD_eq_getD_getElem?,Array.getElem?_setIfInBounds]
 by_cases h:i=j
 ·subst h; simp [hi]
 ·rw [if_neg h,if_neg (by omega)]
theorem draw_any {call:FuncId->List Value->AW->Option (Value × AW)} (hg:noGo P=true) (hc:Sound P call) {opsA:Array Oper} {ms:List Nat} {tr:List (Slots × Value)} {hs:List AW} {a af:Slots} {h h':AW} {ρ₀:Env} {h₀:AW} {w₀:World} {Q:Exit->Act->World->Prop}
  (hm:masksB opsA.toList []=some ms) (hok:drawOk P ms opsA.toList=true) (hcan:canon P call opsA.toList opsA.toList a h=some (tr,hs,af)) (hag:agree P ms opsA.toList hs opsA.toList tr 0=true) (hlast:lastB hs=some h')
  (hQ:∀ ρ' act' w',LRel ρ' af act'.tmps.toList->act'.defers=[]->HRel P ρ' h' w'->Turn ρ₀ h₀ w₀ ρ' h' w'->Q .normal act' w') :
  ∀ (fuel:Nat) (listed:Array Bool) (act:Act) (w:World) (ρ:Env) (H:AW),listed.size=opsA.size →
   (∀ i o,lst listed i=true->opsA.toList[i]?=some o->∀ e∈o.after.toList,Region.binds .any e=true->lst listed e.on=true) →
   hs[countB P (lst listed) opsA.toList 0]?=some H->HRel P ρ H w->Turn ρ₀ h₀ w₀ ρ H w->act.tmps.size=a.length->act.defers=[] →
   (∀ t x,slotAt (lst listed) opsA.toList tr a t=some x->∃ u,act.tmps[t]?=some u/\VRel ρ x u) →
   ((List.range opsA.size).filter fun i=>!listed.getD i true).length<=fuel->wpAny P .any opsA Q fuel listed act w:=by
 simp only [drawOk,Bool.and_eq_true] at hok
 obtain ⟨⟨hon,hback⟩,hsort⟩:=hok
 have hu:Once opsA.toList:=once_spec hon
 obtain ⟨c1,⟨hl,c2,c3⟩,c4,c5,c6⟩:=canon_spec hu hcan
 rw [hlast] at c2
 simp at c2
 subst c2
 -- when all are listed
 have final:∀ (listed:Array Bool) (act:Act) (w:World) (ρ:Env) (H:AW),(∀ i,i < opsA.size->lst listed i=true)->hs[countB P (lst listed) opsA.toList 0]?=some H->HRel P ρ H w->Turn ρ₀ h₀ w₀ ρ H w->act.tmps.size=a.length->act.defers=[] →
   (∀ t x,slotAt (lst listed) opsA.toList tr a t=some x->∃ u,act.tmps[t]?=some u/\VRel ρ x u)->Q .normal act w:=by
  intro listed act w ρ H hall hH HR T hsz hd hslots
  have hcnt:countB P (lst listed) opsA.toList 0=countB P (fun _=>true) opsA.toList 0:=countB_congr_lt fun j _ hj=>hall j (by simpa using hj)
  rw [hcnt,c3] at hH
  simp at hH
  subst hH
  refine hQ ρ act w (LRel.of_get (by simp; omega) fun t x hx=>?_) hd HR T
  rw [c5,slotAt_congr (q:=lst listed) fun i o hi _=>(hall i (by simpa using (List.getElem?_eq_some_iff.1 hi).1)).symm] at hx
  obtain ⟨u,hu',hv⟩:=hslots t x hx
  exact ⟨u,by rwa [Array.getElem?_toList],hv⟩
 have hgetD:∀ (listed:Array Bool) (i:Nat),i < listed.size->listed.getD i true=lst listed i:=fun listed i hi=>by
  unfold lst
  rw [Array.getD_eq_getD_getElem?,Array.getD_eq_getD_getElem?,Array.getElem?_eq_getElem hi]; rfl
 intro fuel
 induction fuel with
 | zero =>
  intro listed act w ρ H hsize hclosed hH HR T hsz hd hslots hfuel
  have hnil:((List.range opsA.size).filter fun i=>!listed.getD i true)=[]:=List.eq_nil_of_length_eq_zero (by omega)
  have hall:∀ i,i < opsA.size->lst listed i=true:=fun i hi=>by
   have:=List.filter_eq_nil_iff.1 hnil i (by simpa using hi)
   rw [hgetD listed i (by omega)] at this
   simpa using this
  refine ⟨?_,final listed act w ρ H hall hH HR T hsz hd hslots⟩
  unfold Region.ready
  rw [List.filter_eq_nil_iff]
  intro i hi
  rw [hgetD listed i (by simp at hi; omega),hall i (by simpa using hi)]
  simp
 | succ fuel ih =>
  intro listed act w ρ H hsize hclosed hH HR T hsz hd hslots hfuel
  refine ⟨fun hready=>?_,fun i hi=>?_⟩
  ·have hall:∀ i,i < opsA.size->lst listed i=true:=by
    intro i
    induction i using Nat.strongRecOn with
    | _ i ihi =>
     intro hi
     cases hb:lst listed i with
     | true=>rfl
     | false =>
      have hin:i∈Region.ready .any opsA listed:=by
       unfold Region.ready
       rw [List.mem_filter]
       refine ⟨by simpa using hi,?_⟩
       rw [hgetD listed i (by omega),hb]
       have ho:opsA[i]?=some opsA[i]:=Array.getElem?_eq_getElem hi
       simp only [ho,Option.map_some,Option.getD_some,Bool.not_false,Bool.true_and]
       rw [Array.all_eq_true']
       intro e he
       cases hbe:Region.binds .any e with
       | false=>simp
       | true =>
       have hlt:=backB_spec hback i opsA[i] (by rw [Array.getElem?_toList]; exact ho) e (by simpa using he) hbe
       have:=ihi e.on (by omega) (by omega)
       unfold lst at this
       rw [this]; simp
      rw [hready] at hin
      simp at hin
   exact final listed act w ρ H hall hH HR T hsz hd hslots
  ·-- the operation i stands next
   unfold Region.ready at hi
   rw [List.mem_filter] at hi
   obtain ⟨hin,hi⟩:=hi
   have hin:i < opsA.size:=by simpa using hin
   have ho:opsA[i]?=some opsA[i]:=Array.getElem?_eq_getElem hin
   generalize opsA[i]=o at ho
   rw [hgetD listed i (by omega),ho] at hi
   simp only [Option.map_some,Option.getD_some,Bool.and_eq_true,Bool.not_eq_true'] at hi
   obtain ⟨hnot,hpre⟩:=hi
   rw [Array.all_eq_true'] at hpre
   have hoL:opsA.toList[i]?=some o:=by rw [Array.getElem?_toList]; exact ho
   have hpreds:∀ e∈o.after.toList,Region.binds .any e=true->lst listed e.on=true:=fun e he hb=>by
    have:=hpre e (by simpa using he)
    rw [hb] at this
    simpa [lst] using this
   have hclose:=closed_ahead hm hback (S:=fun j=>lst listed j=true) hclosed
   have hbefore:∀ j,ahead ms i j=true->lst listed j=true:=hclose i o hoL hpreds
   have hafter:∀ j q,opsA.toList[j]?=some q->lst listed j=true->ahead ms j i=false:=fun j q hq hj=>by
    cases hb:ahead ms j i with
    | false=>rfl
    | true =>
     have:=hclose j q hq (hclosed j q hj hq) i hb
     rw [hnot] at this; cases this
   obtain ⟨ap,vp,d1,d2,d3,d4,d5,d6⟩:=c6 i o hoL
   -- what it looks at stands as it does in the order of the text
   let A:Slots:=(List.range a.length).map fun t=>(slotAt (lst listed) opsA.toList tr a t).getD undef
   have hA:∀ t,A[t]?=if t < a.length then some ((slotAt (lst listed) opsA.toList tr a t).getD undef) else none:=fun t=>by
    simp only [A,List.getElem?_map]
    by_cases ht:t < a.length
    ·rw [List.getElem?_range ht,if_pos ht]; rfl
    ·rw [List.getElem?_eq_none (by simpa using ht),if_neg ht]; rfl
   have hsome:∀ (p:Nat->Bool) t,t < a.length->∃ x,slotAt p opsA.toList tr a t=some x:=fun p t ht=>by
    unfold slotAt
    cases lookW p t opsA.toList tr 0 with
    | some v=>exact ⟨v,rfl⟩
    | none=>exact ⟨a[t],List.getElem?_eq_getElem ht⟩
   have hrelA:LRel ρ A act.tmps.toList:=LRel.of_get (by simp [A]; omega) fun t x hx=>by
    rw [hA] at hx
    split at hx
    ·rename_i ht
     obtain ⟨y,hy⟩:=hsome (lst listed) t ht
     rw [hy] at hx
     simp at hx; subst hx
     obtain ⟨u,hu',hv⟩:=hslots t y hy
     exact ⟨u,by rwa [Array.getElem?_toList],hv⟩
    ·cases hx
   have hlook:∀ t,t∈looksB opsA.toList o->A[t]?=ap[t]?:=fun t ht=>by
    have hsl:slotAt (lst listed) opsA.toList tr a t=slotAt (fun j=>decide (j < i)) opsA.toList tr a t:=slotAt_congr fun j q hq hd=>by
     by_cases hji:j=i
     ·subst hji; rw [hnot]; simp
     ·obtain ⟨s1,s2⟩:=allSorted_spec hsort i o hoL j q t hq hd ht (by omega)
      by_cases hlt:j < i
      ·rw [hbefore j (by simpa using s1 (by omega))]; simp [hlt]
      ·have:=s2 (by omega)
       cases hb:lst listed j with
       | false=>simp [hlt]
       | true =>
        have:=hafter j q hq hb
        rw [show (0+i)=i by omega] at s2
        rw [s2 (by omega)] at this; cases this
    rw [hA,d3,hsl]
    by_cases htl:t < a.length
    ·rw [if_pos htl]
     obtain ⟨y,hy⟩:=hsome (fun j=>decide (j < i)) t htl
     rw [hy]; rfl
    ·rw [if_neg htl,← d3]
     rw [List.getElem?_eq_none (by omega)]
   have hwA:wantedB opsA.toList o A=wantedB opsA.toList o ap:=wantedB_congr hlook
   have hsA:sureB opsA.toList o A=true:=by
    rw [sureB_congr hlook]
    cases hw:wantedB opsA.toList o ap with
    | true=>exact sure_of_wanted hw
    | false=>exact (d5 hw).2
   have hopA:∀ H',opB P A o H'=opB P ap o H':=fun H'=>opB_congr (aev_congr hlook)
   -- how many that turn rows have been done
   have hlo:leastOf P ms opsA.toList i<=countB P (lst listed) opsA.toList 0:=countB_mono hbefore
   have hhi:countB P (lst listed) opsA.toList 0<=mostOf P ms opsA.toList i:=by
    have:countB P (lst listed) opsA.toList 0=countB P (fun j=>lst listed j && decide (j < opsA.size)) opsA.toList 0:=countB_congr_lt fun j _ hj=>by
     have:j < opsA.size:=by simpa using hj
     simp [this]
    rw [this]
    refine countB_mono fun j hj=>?_
    simp only [Bool.and_eq_true,decide_eq_true_eq] at hj
    obtain ⟨hj,hjl⟩:=hj
    have hq:opsA.toList[j]?=some opsA[j]:=by rw [Array.getElem?_toList]; exact Array.getElem?_eq_getElem hjl
    rw [hafter j _ hq hj]
    have hne:j≠i:=fun hh=>by subst hh; rw [hnot] at hj; cases hj
    rw [beq_false hne]; rfl
   obtain ⟨a1,a2⟩:=agree_spec hag i o ap vp hoL d1
   rw [show 0+i=i by omega] at a1 a2
   have hcadd:=countB_add (P:=P) (p:=lst listed) (q:=lst (listed.setIfInBounds i true)) (n:=i) (fun j=>lst_set (by omega)) hnot (ops:=opsA.toList) (k:=0) (by omega) (o:=o) (by simpa using hoL)
   have hback':∀ i o,opsA.toList[i]?=some o->∀ j,ahead ms i j=true->j < i:=fun i o ho=>closed_ahead hm hback (S:=fun j=>j < i) (fun j q hj hq e he hbe=>by have:=backB_spec hback j q hq e he hbe; omega) i o ho (fun e he hbe=>by have:=backB_spec hback i o ho e he hbe; omega)
   have hmid:readOp P o.op=false->countB P (lst listed) opsA.toList 0=countB P (fun j=>decide (j < i)) opsA.toList 0:=fun hr=>by
    have e1:leastOf P ms opsA.toList i<=countB P (fun j=>decide (j < i)) opsA.toList 0:=countB_mono fun j hj=>by simpa using hback' i o hoL j hj
    have e2:countB P (fun j=>decide (j < i)) opsA.toList 0<=mostOf P ms opsA.toList i:=by
     have:countB P (fun j=>decide (j < i)) opsA.toList 0=countB P (fun j=>decide (j < i) && decide (j < opsA.size)) opsA.toList 0:=countB_congr_lt fun j _ hj=>by
      have:j < opsA.size:=by simpa using hj
      simp [this]
     rw [this]
     refine countB_mono fun j hj=>?_
     simp only [Bool.and_eq_true,decide_eq_true_eq] at hj
     obtain ⟨hj,hjl⟩:=hj
     have hq:opsA.toList[j]?=some opsA[j]:=by rw [Array.getElem?_toList]; exact Array.getElem?_eq_getElem hjl
     rw [beq_false (show j≠i by omega)]
     cases hb:ahead ms j i with
     | false=>rfl
     | true=>have:=hback' j _ hq i hb; omega
    have:=a2 hr
    omega
   -- what holds behind it
   have next:∀ (u:Value) (w':World) (ρ':Env) (H':AW),ρ.le ρ'->VRel ρ' vp u->HRel P ρ' H' w'->Turn ρ H w ρ' H' w'->hs[countB P (lst (listed.setIfInBounds i true)) opsA.toList 0]?=some H' →
     wpAny P .any opsA Q fuel (listed.setIfInBounds i true) (act.put o.dst u) w':=by
    intro u w' ρ' H' le hv HR' T' hH'
    refine ih _ _ w' ρ' H' (by simpa using hsize) ?_ hH' HR' (T.trans T') ?_ (by rw [put_defers]; exact hd) ?_ ?_
    ·intro j q hj hq e he hb
     rw [lst_set (by omega)] at hj ⊢
     by_cases hji:j=i
     ·subst hji
      rw [hoL] at hq; simp at hq; subst hq
      rw [hpreds e he hb]; simp
     ·rw [if_neg hji] at hj
      rw [hclosed j q hj hq e he hb]; simp
    ·rw [← hsz]
     cases o.dst <;> simp [Act.put]
    ·intro t x hx
     have hput:(act.put o.dst u).tmps[t]?=if o.dst=some t then (if t < act.tmps.size then some u else none) else act.tmps[t]?:=by
      cases hd':o.dst with
      | none=>simp [Act.put]
      | some d =>
       simp only [Act.put,Array.getElem?_setIfInBounds]
       by_cases hdt:d=t
       ·subst hdt; simp
       ·rw [if_neg hdt,if_neg (fun hh=>hdt (by simpa using hh))]
     by_cases hdt:o.dst=some t
     ·rw [slotAt_here hu hoL d1 hdt (by rw [lst_set (by omega)]; simp)] at hx
      simp at hx; subst hx
      exact ⟨u,by rw [hput,if_pos hdt,if_pos (by have:=d4 t hdt; omega)],hv⟩
     ·rw [slotAt_congr (q:=lst listed) fun j q hq hd'=>by
       rw [lst_set (by omega)]
       by_cases hji:j=i
       ·subst hji; rw [hoL] at hq; simp at hq; subst hq; exact absurd hd' hdt
       ·rw [if_neg hji]] at hx
      obtain ⟨u',hu',hv'⟩:=hslots t x hx
      exact ⟨u',by rw [hput,if_neg hdt]; exact hu',hv'.mono le⟩
    ·have:=cnt_lt (l:=List.range opsA.size) (p:=fun j=>!listed.getD j true) (q:=fun j=>!(listed.setIfInBounds i true).getD j true) (fun x hx=>by
      rw [Array.getD_eq_getD_getElem?,Array.getElem?_setIfInBounds] at hx
      rw [Array.getD_eq_getD_getElem?]
      by_cases hxi:i=x
      ·subst hxi; rw [if_pos rfl,if_pos (by omega)] at hx; simp at hx
      ·rwa [if_neg hxi] at hx) ⟨i,by simpa using hin,by rw [hgetD listed i (by omega),hnot]; rfl,by
       rw [Array.getD_eq_getD_getElem?,Array.getElem?_setIfInBounds,if_pos rfl,if_pos (by omega)]; rfl⟩
     omega
   unfold wpOp
   rw [ho]
   simp only
   rw [← wantedB_eq hrelA hsA,hwA]
   cases hw:wantedB opsA.toList o ap with
   | false =>
    rw [if_neg (by simp)]
    have hvp:=(d5 hw).1
    refine next undef w ρ H (Env.le_refl _) (by rw [hvp]; exact undef_rel) HR (Turn.refl _ _ _) ?_
    rw [hcadd]
    cases hr:readOp P o.op with
    | true=>simpa using hH
    | false =>
     obtain ⟨h1,h2,e1,e2,_,e4⟩:=d6 hr
     have hh:=e4 hw
     subst hh
     have heq:=hmid hr
     rw [heq,e1] at hH
     simp at hH; subst hH
     simp only [Bool.false_eq_true,if_false]
     rw [heq,e2]
   | true =>
    rw [if_pos rfl]
    left
    have fin:∀ {H':AW},OpDone P ρ H w (execOp act.eval o) (.val vp H')->hs[countB P (lst (listed.setIfInBounds i true)) opsA.toList 0]?=some H'->o.wp P act w (wpAny P .any opsA Q fuel (listed.setIfInBounds i true)) Q:=by
     intro H' hdone hH'
     obtain ⟨n,u,w',ρ',hrun,hn,hv,HR',T'⟩:=hdone
     have:=next u w' ρ' H' T'.le hv HR' T' hH'
     unfold Oper.wp
     rw [hrun]
     rcases hn with rfl | ⟨rfl,rfl⟩ <;> exact this
    cases hr:readOp P o.op with
    | true =>
     obtain ⟨h'',hop⟩:=a1 hr hw _ H hH hlo hhi
     obtain ⟨v,hv⟩:=opB_read hr hop
     simp at hv
     obtain ⟨_,rfl⟩:=hv
     refine fin (opB_sound hrelA HR (by rw [hopA]; exact hop)) ?_
     rw [hcadd,hr]
     simpa using hH
    | false =>
     obtain ⟨h1,h2,e1,e2,e3,_⟩:=d6 hr
     have hst:=e3 hw
     have heq:=hmid hr
     rw [heq,e1] at hH
     simp at hH; subst hH
     have hnew:hs[countB P (lst (listed.setIfInBounds i true)) opsA.toList 0]?=some h2:=by
      rw [hcadd,hr,heq]; simpa using e2
     unfold stepB at hst
     split at hst
     case h_1 v h3 hop =>
      split at hst
      case h_2=>cases hst
      rename_i v' hv'
      have:=fv_eq hv'
      subst this
      simp at hst
      obtain ⟨rfl,rfl⟩:=hst
      exact fin (opB_sound hrelA HR (by rw [hopA]; exact hop)) hnew
     case h_2 f args hop =>
      obtain ⟨us,hus,hrun⟩:=opB_sound hrelA HR (e:=by rw [hopA]; exact hop)
      obtain ⟨⟨fn,c,hf,hb⟩,hcalls⟩:=hc f args h1 vp h2 hst
      unfold Oper.wp
      rw [hrun,run_callFunc hg hf hb]
      simp only [Oper.upon]
      refine (hcalls ρ us w hus HR).mono ?_
      rintro en w₁ ⟨u,ρ₁,rfl,hv,H₁,T₁⟩
      exact next u w₁ ρ₁ h2 T₁.le hv H₁ T₁ hnew
     case h_3=>cases hst
theorem draw_sound {call:FuncId->List Value->AW->Option (Value × AW)} (hg:noGo P=true) (hmix:P.follows .mixedOrders=true) (hc:Sound P call) {opsA:Array Oper} {id:Nat} {a af:Slots} {h h':AW} (e:drawB P call opsA.toList a h=some (af,h'))
  {ρ:Env} {act:Act} {w:World} {Q:Exit->Act->World->Prop} (hr:LRel ρ a act.tmps.toList) (hd:act.defers=[]) (H:HRel P ρ h w)
  (hQ:∀ ρ' act' w',LRel ρ' af act'.tmps.toList->act'.defers=[]->HRel P ρ' h' w'->Turn ρ h w ρ' h' w'->Q .normal act' w'):(Code.region id opsA true).wp P Q act w:=by
 unfold drawB at e
 split at e
 case h_2=>cases e
 rename_i ms hm
 split at e
 case h_2=>cases e
 rename_i hok
 split at e
 case h_2=>cases e
 rename_i tr hs af' hcan
 split at e
 case h_2=>cases e
 rename_i hl hag hlast
 simp at e
 obtain ⟨rfl,rfl⟩:=e
 refine wp_region_any hmix ?_
 have hu:Once opsA.toList:=by
  simp only [drawOk,Bool.and_eq_true] at hok
  exact once_spec hok.1.1
 have hempty:∀ j,lst (Array.replicate opsA.size false) j=false:=fun j=>by
  unfold lst
  rw [Array.getD_eq_getD_getElem?,Array.getElem?_replicate]
  split <;> rfl
 have hzero:countB P (lst (Array.replicate opsA.size false)) opsA.toList 0=0:=by
  have:∀ (ops:List Oper) (k:Nat),countB P (fun _=>false) ops k=0:=by
   intro ops
   induction ops with
   | nil=>intro k; rfl
   | cons o ops ih=>intro k; simp only [countB,ih]; cases readOp P o.op <;> simp
  exact (countB_congr fun j _=>hempty j).trans (this opsA.toList 0)
 have hw:({ w with drawn:=w.drawn+1 }:World).heap=w.heap:=rfl
 refine draw_any (ρ₀:=ρ) (h₀:=h) (w₀:=w) hg hc hm hok hcan hag hlast hQ opsA.size _ act _ ρ h (by simp) (fun i o hi=>by rw [hempty] at hi; cases hi) ?_ (H.draw hw) (Turn.draw hw rfl rfl rfl (Turn.refl _ _ _)) ?_ hd ?_ ?_
 ·rw [hzero]; exact (canon_spec hu hcan).1
 ·have:=hr.length; simpa using this.symm
 ·intro t x hx
  unfold slotAt at hx
  rw [lookW_none fun i o _ _=>hempty _] at hx
  obtain ⟨u,hu',hv⟩:=hr.get hx
  rw [Array.getElem?_toList] at hu'
  exact ⟨u,hu',hv⟩
 ·exact Nat.le_trans (List.length_filter_le _ _) (by simp)
end
end Go.Am
namespace Go.Am
section
variable {P:Program}
def AExit.exit':AExit->Exit
 | .normal=>.normal
 | .exit id=>.exit id
 | .ret=>.ret
def Leads (P:Program) (c:Code) (a:Slots) (h:AW) (e:AExit) (a':Slots) (h':AW):Prop :=
 ∀ {ρ:Env} {act:Act} {w:World} {Q:Exit->Act->World->Prop},LRel ρ a act.tmps.toList->act.defers=[]->HRel P ρ h w →
  (∀ ρ' act' w',LRel ρ' a' act'.tmps.toList->act'.defers=[]->HRel P ρ' h' w'->Turn ρ h w ρ' h' w'->Q e.exit' act' w')->c.wp P Q act w
theorem rounds_sound {c:Code} {body:Slots->AW->Option (AExit × Slots × AW)} (hb:∀ {a h e a' h'},body a h=some (e,a',h')->Leads P c a h e a' h') {n:Nat} {a a':Slots} {h h':AW} {e:AExit} (er:rounds body n a h=some (e,a',h')) :
  Leads P (.loop c) a h e a' h':=by
 intro ρ act w Q hr hd H hQ
 let J:Nat->Act->World->Prop:=fun n act₁ w₁=>∃ a₁ h₁ ρ₁,rounds body n a₁ h₁=some (e,a',h')/\LRel ρ₁ a₁ act₁.tmps.toList/\act₁.defers=[]/\HRel P ρ₁ h₁ w₁/\Turn ρ h w ρ₁ h₁ w₁
 refine wp_loop_n J (n:=n) ⟨a,h,ρ,er,hr,hd,H,Turn.refl _ _ _⟩ ?_
 rintro n act₁ w₁ ⟨a₁,h₁,ρ₁,er₁,hr₁,hd₁,H₁,T₁⟩
 cases n with
 | zero=>simp [rounds] at er₁
 | succ n =>
  simp only [rounds] at er₁
  split at er₁
  ·rename_i a₂ h₂ hbody
   refine hb hbody hr₁ hd₁ H₁ fun ρ₂ act₂ w₂ hr₂ hd₂ H₂ T₂=>?_
   exact ⟨n,by omega,a₂,h₂,ρ₂,er₁,hr₂,hd₂,H₂,T₁.trans T₂⟩
  ·rename_i hnot
   refine hb er₁ hr₁ hd₁ H₁ fun ρ₂ act₂ w₂ hr₂ hd₂ H₂ T₂=>?_
   have:=hQ ρ₂ act₂ w₂ hr₂ hd₂ H₂ (T₁.trans T₂)
   cases e with
   | normal=>exact (hnot _ _ er₁).elim
   | exit id=>exact this
   | ret=>exact this
theorem code_sound {call:FuncId->List Value->AW->Option (Value × AW)} (hg:noGo P=true) (hmix:P.follows .mixedOrders=true) (hc:Sound P call) (fuel:Nat):∀ (c:Code) {a a':Slots} {h h':AW} {e:AExit},code P call fuel c a h=some (e,a',h')->Leads P c a h e a' h':=by
 intro c
 induction c with
 | skip =>
  intro a a' h h' e er ρ act w Q hr hd H hQ
  simp [code] at er
  obtain ⟨rfl,rfl,rfl⟩:=er
  exact wp_skip (hQ ρ act w hr hd H (Turn.refl _ _ _))
 | region id ops draw =>
  intro a a' h h' e er ρ act w Q hr hd H hQ
  simp only [code] at er
  split at er
  ·split at er
   case h_2=>cases er
   rename_i a₁ h₁ hops
   simp at er
   obtain ⟨rfl,rfl,rfl⟩:=er
   exact draw_sound hg hmix hc hops hr hd H (fun ρ' act' w' a b c d=>hQ ρ' act' w' a b c d)
  ·split at er
   case h_2=>cases er
   rename_i a₁ h₁ hops
   simp at er
   obtain ⟨rfl,rfl,rfl⟩:=er
   refine wp_region ?_
   have:=runOps_sound (Q:=Q) hg hc ops ops.toList 0 rfl hops hr hd H (fun ρ' act' w' a b c d=>hQ ρ' act' w' a b c d)
   rw [List.range_eq_range']
   simpa using this
 | seq x y ihx ihy =>
  intro a a' h h' e er ρ act w Q hr hd H hQ
  simp only [code] at er
  refine wp_seq ?_
  split at er
  ·rename_i a₁ h₁ hx
   exact ihx hx hr hd H fun ρ₁ act₁ w₁ hr₁ hd₁ H₁ T₁=>ihy er hr₁ hd₁ H₁ fun ρ₂ act₂ w₂ hr₂ hd₂ H₂ T₂=>hQ ρ₂ act₂ w₂ hr₂ hd₂ H₂ (T₁.trans T₂)
  ·rename_i hnot
   refine ihx er hr hd H fun ρ₁ act₁ w₁ hr₁ hd₁ H₁ T₁=>?_
   have:=hQ ρ₁ act₁ w₁ hr₁ hd₁ H₁ T₁
   cases e with
   | normal=>exact (hnot _ _ er).elim
   | exit id=>exact this
   | ret=>exact this
 | cond c x y ihx ihy =>
  intro a a' h h' e er ρ act w Q hr hd H hQ
  simp only [code] at er
  split at er
  ·rename_i hv
   have hcr:=aev_rel hr hv
   generalize hev:act.eval c=cv at hcr
   cases hcr
   exact wp_cond_true hev (ihx er hr hd H hQ)
  ·rename_i hv
   have hcr:=aev_rel hr hv
   generalize hev:act.eval c=cv at hcr
   cases hcr
   exact wp_cond_false hev (ihy er hr hd H hQ)
  ·cases er
 | block id x ih =>
  intro a a' h h' e er ρ act w Q hr hd H hQ
  simp only [code] at er
  refine wp_block ?_
  split at er
  ·rename_i id' a₁ h₁ hx
   split at er
   ·rename_i hb
    have hb:=of_beq hb
    subst hb
    simp at er
    obtain ⟨rfl,rfl,rfl⟩:=er
    refine ih hx hr hd H fun ρ₁ act₁ w₁ hr₁ hd₁ H₁ T₁=>?_
    simp only [AExit.exit',Exit.inBlock,if_pos]
    exact hQ ρ₁ act₁ w₁ hr₁ hd₁ H₁ T₁
   ·rename_i hb
    have hb:=of_beq_f hb
    simp at er
    obtain ⟨rfl,rfl,rfl⟩:=er
    refine ih hx hr hd H fun ρ₁ act₁ w₁ hr₁ hd₁ H₁ T₁=>?_
    simp only [AExit.exit',Exit.inBlock,if_neg hb]
    exact hQ ρ₁ act₁ w₁ hr₁ hd₁ H₁ T₁
  ·rename_i hnot
   refine ih er hr hd H fun ρ₁ act₁ w₁ hr₁ hd₁ H₁ T₁=>?_
   have:=hQ ρ₁ act₁ w₁ hr₁ hd₁ H₁ T₁
   cases e with
   | normal=>exact this
   | exit id=>exact (hnot _ _ _ er).elim
   | ret=>exact this
 | loop x ih =>
  intro a a' h h' e er
  simp only [code] at er
  exact rounds_sound (fun hb=>ih hb) er
 | exit id =>
  intro a a' h h' e er ρ act w Q hr hd H hQ
  simp [code] at er
  obtain ⟨rfl,rfl,rfl⟩:=er
  exact wp_exit (hQ ρ act w hr hd H (Turn.refl _ _ _))
 | ret =>
  intro a a' h h' e er ρ act w Q hr hd H hQ
  simp [code] at er
  obtain ⟨rfl,rfl,rfl⟩:=er
  exact wp_ret (hQ ρ act w hr hd H (Turn.refl _ _ _))
 | _=>intro a a' h h' e er; simp [code] at er
theorem undefs_rel {ρ:Env} (n:Nat):LRel ρ (undefs n) (List.replicate n undef):=by
 induction n with
 | zero=>exact .nil
 | succ n ih=>exact .cons undef_rel ih
def readRes (tmps:Array Value):ResultVar->Sem Value
 | .tmp t=>pure (tmps.getD t undef)
 | .cell x t=>do loadVar t (← asAddr (tmps.getD x undef))
theorem results_sound {ρ:Env} {a:Slots} {act:Act} {h:AW} {w:World} (hr:LRel ρ a act.tmps.toList) (H:HRel P ρ h w):∀ {rs:List ResultVar} {vs:List Value},resultsB P a h rs=some vs →
  ∃ us,(rs.mapM (readRes act.tmps)).run P w=Result.ok us w/\LRel ρ vs us
 | [],vs,e=>by simp [resultsB] at e; subst e; exact ⟨[],rfl,.nil⟩
 | .tmp t::rest,vs,e=>by
  simp only [resultsB] at e
  split at e
  case h_2=>cases e
  rename_i v vs' hv hvs
  simp at e; subst e
  obtain ⟨us,hrun,hrel⟩:=results_sound hr H hvs
  obtain ⟨u,hu,hvr⟩:=hr.get hv
  rw [Array.getElem?_toList] at hu
  refine ⟨u::us,?_,.cons hvr hrel⟩
  rw [List.mapM_cons]
  simp only [readRes,Sem.run_bind,Sem.run_pure,Result.andThen_ok,hrun]
  rw [Array.getD_eq_getD_getElem?,hu]; rfl
 | .cell x t::rest,vs,e=>by
  simp only [resultsB] at e
  split at e
  case h_2=>cases e
  rename_i p hp
  split at e
  case h_2=>cases e
  rename_i v vs' hv hvs
  simp at e; subst e
  obtain ⟨us,hrun,hrel⟩:=results_sound hr H hvs
  obtain ⟨u,hu,hpr⟩:=hr.get hp
  rw [Array.getElem?_toList] at hu
  have hgd:act.tmps.getD x undef=u:=by rw [Array.getD_eq_getD_getElem?,hu]; rfl
  unfold loadB at hv
  split at hv
  case h_2=>cases hv
  rename_i r off
  split at hv
  case h_2=>cases hv
  rename_i cs hrow
  cases hpr with
  | ptr hl =>
   obtain ⟨z,hz,hzr⟩:=run_loadVar H hrow hl hv
   refine ⟨z::us,?_,.cons hzr hrel⟩
   rw [List.mapM_cons]
   simp only [readRes,hgd,Sem.run_bind,asAddr,Sem.run_pure,Result.andThen_ok,hz,hrun]
theorem tupleB_rel {ρ:Env} {vs us:List Value} (hr:LRel ρ vs us):VRel ρ (tupleB vs) (if h:(⟨us⟩:Array Value).size=1 then (⟨us⟩:Array Value)[0] else .tuple ⟨us⟩):=by
 cases hr with
 | nil=>exact .tuple .nil
 | cons h1 h2 =>
  cases h2 with
  | nil=>exact h1
  | cons h3 h4 =>
   rw [dif_neg (by simp)]
   exact .tuple (.cons h1 (.cons h3 h4))
theorem results_run {fn:Func} {tmps:Array Value} {w:World}:(results fn tmps).run P w=(((fn.results.toList).mapM (readRes tmps)).run P w).andThen fun us w=>.ok (if h:(⟨us⟩:Array Value).size=1 then (⟨us⟩:Array Value)[0] else .tuple ⟨us⟩) w:=by
 have hfun:results fn tmps=(do
   let vs ← fn.results.mapM (readRes tmps)
   pure (if h:vs.size=1 then vs[0] else .tuple vs)):=by
  unfold results
  congr 1
 rw [hfun,Array.mapM_eq_mapM_toList]
 simp only [Sem.run_bind,Sem.run_map]
 generalize Sem.run P (List.mapM _ fn.results.toList) w=q
 cases q <;> rfl
theorem callB_sound (hg:noGo P=true) (hmix:P.follows .mixedOrders=true) {known:Known} (hk:Sound P known) (fuel:Nat):∀ n,Sound P (callB P known fuel n):=by
 intro n
 induction n with
 | zero=>intro f args h v h' e; simp [callB] at e
 | succ n ih =>
  intro f args h v h' e
  simp only [callB] at e
  split at e
  case h_1=>cases e
  rename_i fn hf
  split at e
  case h_1=>cases e
  rename_i c hb
  refine ⟨⟨fn,c,hf,hb⟩,?_⟩
  split at e
  ·rename_i r hkn
   simp at e; subst e
   exact (hk f args h v h' hkn).2
  ·split at e
   case h_2=>cases e
   rename_i a ha
   have ha:=join_eq ha
   intro ρ us w hus H
   refine calls_of_wp hf hb ?_
   have hlen:=hus.length
   have hr:LRel ρ a ((⟨us⟩:Array Value)++Array.replicate (fn.ntmps - (⟨us⟩:Array Value).size) undef).toList:=by
    rw [ha]
    simp only [Array.toList_append,Array.toList_replicate]
    refine hus.append ?_
    rw [hlen]
    exact undefs_rel _
   split at e
   case h_1=>cases e
   case h_3=>cases e
   rename_i ex a₁ h₁ hnot hcode
   split at e
   case h_2=>cases e
   rename_i vs hvs
   simp at e
   obtain ⟨rfl,rfl⟩:=e
   refine code_sound hg hmix ih fuel c hcode (act:={ tmps:=_,defers:=[] }) hr rfl H fun ρ₁ act₁ w₁ hr₁ hd₁ H₁ T₁=>?_
   obtain ⟨us₁,hrun,hrel⟩:=results_sound hr₁ H₁ hvs
   have hpost:act₁.defers=[]/\∃ v,(results fn act₁.tmps).run P w₁=.ok v w₁/\∃ u ρ',Ending.returned v=.returned u/\VRel ρ' (tupleB vs) u/\HRel P ρ' h₁ w₁/\Turn ρ h w ρ' h₁ w₁ :=
    ⟨hd₁,_,by rw [results_run,hrun]; rfl,_,ρ₁,rfl,tupleB_rel hrel,H₁,T₁⟩
   cases ex with
   | normal=>exact hpost
   | exit id=>first | exact (hnot _ _ _ rfl).elim | exact (hnot _ rfl).elim | exact (hnot _ _ _ hcode).elim
   | ret=>exact hpost
theorem nothing_sound:Sound P nothing:=fun _ _ _ _ _ e=>by cases e
theorem empty_rel (w:World):HRel P (fun _=>none) AW.empty w :=
 ⟨fun r row hr=>(by cases hr),fun _ _ _ _ _ _ hr=>(by cases hr),fun _=>rfl,(by decide)⟩
end
end Go.Am
namespace Go.Am
section
variable {P:Program}
theorem wpIn_loop_n {F:Fence} {n':Nat} {P:Program} {c:Code} {Q:Exit->Act->World->Prop} (J:Nat->Act->World->Prop) {n:Nat} {a:Act} {w:World} (h₀:J n a w)
  (round:∀ n a w,J n a w->c.wpIn F n' P (Exit.then (fun a' w'=>∃ m,m < n/\J m a' w') Q) a w):(Code.loop c).wpIn F n' P Q a w:=by
 intro b k cs hro hb hr
 have key:∀ n a w,J n a w->∃ e a' w',Q e a' w'/\ArrivesIn (Machine.fenced P F) P (lone (b.atR a (.code c::.inLoop c::k)) cs w) b k cs e a' w':=by
  intro n
  induction n using Nat.strongRecOn with
  | _ n ih =>
   intro a w hI
   obtain ⟨e,a₁,w₁,hq,harr⟩:=round n a w hI b (.inLoop c::k) cs hro hb hr
   cases e with
   | normal =>
    obtain ⟨m,hm,hJ⟩:=hq
    obtain ⟨e₂,a₂,w₂,hq₂,harr₂⟩:=ih m hm a₁ w₁ hJ
    exact ⟨e₂,a₂,w₂,hq₂,.of_steps (StepsIn.trans harr (.one (fenced_calm hb hr rfl) stepR_inLoop)) harr₂⟩
   | exit id=>exact ⟨_,a₁,w₁,hq,.pass (x:=.inLoop c) rfl (fun _ _=>.inl (by simp)) harr⟩
   | goto l=>exact ⟨_,a₁,w₁,hq,.pass (x:=.inLoop c) rfl (fun _ _=>.inl (by simp)) harr⟩
   | ret=>exact ⟨_,a₁,w₁,hq,.pass (x:=.inLoop c) rfl (fun _ _=>.inl (by simp)) harr⟩
   | panic ch=>exact ⟨_,a₁,w₁,hq,.pass (x:=.inLoop c) rfl (fun _ _=>.inl (by simp)) harr⟩
   | outgrown=>exact ⟨_,a₁,w₁,hq,.pass (x:=.inLoop c) rfl (fun _ _=>.inl (by simp)) harr⟩
 obtain ⟨e,a',w',hq,harr⟩:=key n a w h₀
 exact ⟨e,a',w',hq,.of_steps (.one (fenced_calm hb hr rfl) stepR_loop) harr⟩
def wideAt (ro:Option Nat):Fence:={ Fence.wide with round:=ro }
inductive RdRel (ρ:Env):Option Nat->Option Nat->Prop
 | none:RdRel ρ none none
 | some {r:Nat} {l:Loc} (h:ρ r=some l):RdRel ρ (some r) (some l.block)
theorem RdRel.mono {ρ ρ':Env} {rd ro:Option Nat} (h:RdRel ρ rd ro) (le:ρ.le ρ'):RdRel ρ' rd ro:=by
 cases h with
 | none=>exact .none
 | some e=>exact .some (le _ _ e)
theorem callsIn_at {ro:Option Nat} {n:Nat} {P:Program} {f:FuncId} {args:Array Value} {w:World} {R:Ending->World->Prop}:CallsIn (wideAt ro) n P f args w R↔Calls P f args w R :=
 (Iff.rfl:CallsIn (wideAt ro) n P f args w R↔CallsIn Fence.wide n P f args w R).trans callsIn_wide
structure Marks (n₀:Nat) (ρ:Env) (h:AW) (w:World) (ds:List Deferred):Prop where
 base:n₀<=w.heap.size
 each:∀ d,d∈ds->∃ D,d.target=.collected D/\n₀<=D/\w.heap[D]?=some (.deferred (some []))/\∀ r row l,h.get r=some row->row.own=true->ρ r=some l->l.block≠D
 nd:(ds.map (·.target)).Nodup
theorem Marks.nil (ρ:Env) (h:AW) (w:World):Marks w.heap.size ρ h w []:=⟨Nat.le_refl _,fun _ hd=>(by cases hd),List.nodup_nil⟩
theorem Marks.turn {n₀:Nat} {ρ ρ':Env} {h h':AW} {w w':World} {ds:List Deferred} (M:Marks n₀ ρ h w ds) (T:Turn ρ h w ρ' h' w'):Marks n₀ ρ' h' w' ds:=by
 refine ⟨Nat.le_trans M.base T.size,fun d hd=>?_,M.nd⟩
 obtain ⟨D,h1,h2,h3,h4⟩:=M.each d hd
 have hlt:D < w.heap.size:=(Array.getElem?_eq_some_iff.1 h3).1
 refine ⟨D,h1,h2,(T.keep D hlt fun r row l a b c=>h4 r row l a b c).trans h3,fun r row l a b c e=>?_⟩
 obtain ⟨r₀,row₀,l₀,a',b',c',e'⟩:=T.own r row l a b c (by rw [e]; exact hlt)
 exact h4 r₀ row₀ l₀ a' b' c' (e'.trans e)
theorem opB_noDefer {o:Oper} {a:Slots} {h:AW} {x:Res} (e:opB P a o h=some x):∀ c,o.op≠.defer c:=by
 intro c hc
 simp only [opB,hc] at e
 cases e
def CQ (P:Program) (f:FuncId) (args:List Value) (h:AW) (R:Value->AW->Prop):Prop :=
 (∃ fn c,P.funcs[f]?=some fn/\fn.body=some c)/\∀ ρ us w,LRel ρ args us->HRel P ρ h w →
  Calls P f ⟨us⟩ w fun e w'=>∃ v h' u ρ',e=.returned u/\R v h'/\VRel ρ' v u/\HRel P ρ' h' w'/\Turn ρ h w ρ' h' w'
def OQ (P:Program) (ops:List Oper) (rest:List Oper) (a:Slots) (h:AW) (K:Slots->AW->Prop):Prop :=
 ∀ (ro:Option Nat) (ds:List Deferred) (opsA:Array Oper) (i:Nat) (ρ:Env) (act:Act) (w:World) (Q:Exit->Act->World->Prop),opsA.toList=ops->(∃ tl,ops.drop i=rest++tl)->LRel ρ a act.tmps.toList->act.defers=ds->HRel P ρ h w →
  (∀ a' h' ρ' act' w',K a' h'->LRel ρ' a' act'.tmps.toList->act'.defers=ds->HRel P ρ' h' w'->Turn ρ h w ρ' h' w'->Q .normal act' w')->wpOpsIn (wideAt ro) 0 P opsA Q (List.range' i rest.length) act w
def LQ (rd:Option Nat) (P:Program) (c:Code) (a:Slots) (h:AW) (R:AExit->Slots->AW->Prop):Prop :=
 ∀ (n₀:Nat) (ro:Option Nat) (ρ:Env) (act:Act) (w:World) (Q:Exit->Act->World->Prop),RdRel ρ rd ro->LRel ρ a act.tmps.toList->Marks n₀ ρ h w act.defers->HRel P ρ h w →
  (∀ e a' h' ρ' act' w',R e a' h'->LRel ρ' a' act'.tmps.toList->Marks n₀ ρ' h' w' act'.defers->HRel P ρ' h' w'->Turn ρ h w ρ' h' w'->Q e.exit' act' w')->c.wpIn (wideAt ro) 0 P Q act w
theorem CQ.mono {f:FuncId} {args:List Value} {h:AW} {R R':Value->AW->Prop} (c:CQ P f args h R) (hr:∀ v h',R v h'->R' v h'):CQ P f args h R' :=
 ⟨c.1,fun ρ us w a b=>(c.2 ρ us w a b).mono fun e w' ⟨v,h',u,ρ',e1,e2,e3⟩=>⟨v,h',u,ρ',e1,hr _ _ e2,e3⟩⟩
theorem OQ.nil {ops:List Oper} {a:Slots} {h:AW} {K:Slots->AW->Prop} (k:K a h):OQ P ops [] a h K:=by
 intro ro ds opsA i ρ act w Q ho hd hr hdf H hQ
 exact hQ a h ρ act w k hr hdf H (Turn.refl _ _ _)
section
variable {ops rest:List Oper} {o:Oper} {a a₁ a':Slots} {h h₁ h':AW} {v:Value} {K:Slots->AW->Prop}
theorem drop_at {opsA:Array Oper} {i:Nat} (ho:opsA.toList=ops) (hd:∃ tl,ops.drop i=(o::rest)++tl):opsA[i]?=some o/\∃ tl,ops.drop (i+1)=rest++tl:=by
 obtain ⟨tl,hd⟩:=hd
 constructor
 ·rw [← Array.getElem?_toList,ho]
  have:(ops.drop i)[0]?=some o:=by rw [hd]; rfl
  rwa [List.getElem?_drop,Nat.add_zero] at this
 ·exact ⟨tl,by rw [← List.drop_drop,hd]; rfl⟩
theorem OQ.val (hw:wantedB ops o a=true) (e:opB P a o h=some (.val v h₁)) (ep:putAt a o.dst v=some a₁) (k:OQ P ops rest a₁ h₁ K):OQ P ops (o::rest) a h K:=by
 intro ro ds opsA i ρ act w Q ho hd hr hdf H hQ
 obtain ⟨hoi,hrest⟩:=drop_at ho hd
 simp only [List.length_cons,List.range'_succ,wpOpsIn,hoi]
 rw [← wantedB_eq hr (by rw [ho]; exact sure_of_wanted hw),ho,hw,if_pos rfl]
 obtain ⟨n,u,w₁,ρ₁,hrun,hn,hv,H₁,T₁⟩:=opB_sound hr H e
 have hnext:=k ro _ _ _ _ _ _ Q ho hrest (putAt_rel ep (hr.mono T₁.le) hv) (by rw [put_defers]; exact hdf) H₁ (fun a' h' ρ' act' w' kk a b c d=>hQ a' h' ρ' act' w' kk a b c (T₁.trans d))
 refine ⟨fun _ _=>trivial,?_⟩
 rw [Oper.semAt_eq _ _ _ (opB_noDefer e),hrun]
 rcases hn with rfl | ⟨rfl,rfl⟩ <;> exact hnext
theorem OQ.skip (hw:skipB ops o a=true) (ep:putAt a o.dst undef=some a₁) (k:OQ P ops rest a₁ h K):OQ P ops (o::rest) a h K:=by
 intro ro ds opsA i ρ act w Q ho hd hr hdf H hQ
 obtain ⟨hoi,hrest⟩:=drop_at ho hd
 simp only [List.length_cons,List.range'_succ,wpOpsIn,hoi]
 obtain ⟨hw,hsure⟩:=skip_iff.1 hw
 rw [← wantedB_eq hr (by rw [ho]; exact hsure),ho,hw,if_neg (by simp)]
 exact ⟨fun _ _=>trivial,k ro _ _ _ _ _ _ Q ho hrest (putAt_rel ep hr undef_rel) (by rw [put_defers]; exact hdf) H hQ⟩
theorem OQ.call (hg:noGo P=true) {f:FuncId} {args:List Value} (hw:wantedB ops o a=true) (e:opB P a o h=some (.call f args)) (hc:CQ P f args h fun v h₁=>∃ a₁,putAt a o.dst v=some a₁/\OQ P ops rest a₁ h₁ K) :
  OQ P ops (o::rest) a h K:=by
 intro ro ds opsA i ρ act w Q ho hd hr hdf H hQ
 obtain ⟨hoi,hrest⟩:=drop_at ho hd
 simp only [List.length_cons,List.range'_succ,wpOpsIn,hoi]
 rw [← wantedB_eq hr (by rw [ho]; exact sure_of_wanted hw),ho,hw,if_pos rfl]
 obtain ⟨us,hus,hrun⟩:=opB_sound hr H e
 obtain ⟨⟨fn,c,hf,hb⟩,hcalls⟩:=hc
 refine ⟨fun _ _=>trivial,?_⟩
 rw [Oper.semAt_eq _ _ _ (opB_noDefer e),hrun,run_callFunc hg hf hb]
 refine ⟨fun hh=>(by cases hh),callsIn_at.2 ((hcalls ρ us w hus H).mono ?_)⟩
 rintro en w₁ ⟨v,h₁,u,ρ₁,rfl,⟨a₁,ep,k⟩,hv,H₁,T₁⟩
 exact k ro _ _ _ _ _ _ Q ho hrest (putAt_rel ep (hr.mono T₁.le) hv) (by rw [put_defers]; exact hdf) H₁ (fun a' h' ρ' act' w' kk a b c d=>hQ a' h' ρ' act' w' kk a b c (T₁.trans d))
end
def Then (next:Slots->AW->Prop) (R:AExit->Slots->AW->Prop):AExit->Slots->AW->Prop
 | .normal,a,h=>next a h
 | e,a,h=>R e a h
def Within (id:Nat) (R:AExit->Slots->AW->Prop):AExit->Slots->AW->Prop
 | .exit id',a,h=>if id'=id then R .normal a h else R (.exit id') a h
 | e,a,h=>R e a h
section
variable {rd:Option Nat} {x y:Code} {a:Slots} {h:AW} {R:AExit->Slots->AW->Prop}
theorem LQ.skip (k:R .normal a h):LQ rd P .skip a h R:=fun _ _ _ _ _ _ _ hr hd H hQ=>wpIn_skip (hQ .normal _ _ _ _ _ k hr hd H (Turn.refl _ _ _))
theorem LQ.ret (k:R .ret a h):LQ rd P .ret a h R:=fun _ _ _ _ _ _ _ hr hd H hQ=>wpIn_ret (hQ .ret _ _ _ _ _ k hr hd H (Turn.refl _ _ _))
theorem LQ.exit {id:Nat} (k:R (.exit id) a h):LQ rd P (.exit id) a h R:=fun _ _ _ _ _ _ _ hr hd H hQ=>wpIn_exit (hQ (.exit id) _ _ _ _ _ k hr hd H (Turn.refl _ _ _))
theorem LQ.region {id:Nat} {ops:Array Oper} {l:List Oper} (hl:ops.toList=l) (k:OQ P l l a h (R .normal)):LQ rd P (.region id ops false) a h R:=by
 intro n₀ ro ρ act w Q _ hr hd H hQ
 refine wpIn_region ?_
 have:=k ro _ _ 0 _ _ _ Q hl ⟨[],by simp⟩ hr rfl H (fun a' h' ρ' act' w' kk a b c d=>hQ .normal a' h' ρ' act' w' kk a (by rw [b]; exact hd.turn d) c d)
 rw [List.range_eq_range']
 rw [← hl] at this
 simpa using this
theorem LQ.seq (hx:LQ rd P x a h (Then (fun a h=>LQ rd P y a h R) R)):LQ rd P (.seq x y) a h R :=
 fun n₀ ro _ _ _ Q hrd hr hd H hQ=>wpIn_seq (hx n₀ ro _ _ _ _ hrd hr hd H fun e a₁ h₁ ρ₁ act₁ w₁ k hr₁ hd₁ H₁ T₁=>by
  cases e with
  | normal=>exact k n₀ ro _ _ _ Q (hrd.mono T₁.le) hr₁ hd₁ H₁ fun e a₂ h₂ ρ₂ act₂ w₂ k₂ hr₂ hd₂ H₂ T₂=>hQ e a₂ h₂ ρ₂ act₂ w₂ k₂ hr₂ hd₂ H₂ (T₁.trans T₂)
  | exit id=>exact hQ (.exit id) a₁ h₁ ρ₁ act₁ w₁ k hr₁ hd₁ H₁ T₁
  | ret=>exact hQ .ret a₁ h₁ ρ₁ act₁ w₁ k hr₁ hd₁ H₁ T₁)
theorem LQ.cond {c:Operand} {b:Bool} (hc:aev a c=some (.bool b)) (hx:b=true->LQ rd P x a h R) (hy:b=false->LQ rd P y a h R):LQ rd P (.cond c x y) a h R:=fun n₀ ro _ act _ _ hrd hr hd H hQ=>by
 have hcr:=aev_rel hr hc
 generalize hev:act.eval c=cv at hcr
 cases hcr
 cases b
 ·exact wpIn_cond_false hev (hy rfl n₀ ro _ _ _ _ hrd hr hd H hQ)
 ·exact wpIn_cond_true hev (hx rfl n₀ ro _ _ _ _ hrd hr hd H hQ)
theorem LQ.block {id:Nat} (hx:LQ rd P x a h (Within id R)):LQ rd P (.block id x) a h R:=fun n₀ ro _ _ _ _ hrd hr hd H hQ=>wpIn_block (hx n₀ ro _ _ _ _ hrd hr hd H fun e a₁ h₁ ρ₁ act₁ w₁ k hr₁ hd₁ H₁ T₁=>by
 cases e with
 | normal=>exact hQ .normal a₁ h₁ ρ₁ act₁ w₁ k hr₁ hd₁ H₁ T₁
 | ret=>exact hQ .ret a₁ h₁ ρ₁ act₁ w₁ k hr₁ hd₁ H₁ T₁
 | exit id' =>
  simp only [AExit.exit',Exit.inBlock]
  simp only [Within] at k
  by_cases he:id'=id
  ·rw [if_pos he] at k ⊢; exact hQ .normal a₁ h₁ ρ₁ act₁ w₁ k hr₁ hd₁ H₁ T₁
  ·rw [if_neg he] at k ⊢; exact hQ (.exit id') a₁ h₁ ρ₁ act₁ w₁ k hr₁ hd₁ H₁ T₁)
theorem LQ.mono {R':AExit->Slots->AW->Prop} (k:LQ rd P x a h R) (hr:∀ e a h,R e a h->R' e a h):LQ rd P x a h R' :=
 fun n₀ ro _ _ _ _ hrd hs hd H hQ=>k n₀ ro _ _ _ _ hrd hs hd H fun e a' h' ρ' act' w' kk=>hQ e a' h' ρ' act' w' (hr _ _ _ kk)
theorem LQ.loop (I:Nat->Slots->AW->Prop) {n:Nat} (h₀:I n a h) (round:∀ n a h,I n a h->LQ rd P x a h (Then (fun a' h'=>∃ m,m < n/\I m a' h') R)):LQ rd P (.loop x) a h R:=by
 intro n₀ ro ρ act w Q hrd hr hd H hQ
 let J:Nat->Act->World->Prop:=fun n act₁ w₁=>∃ a₁ h₁ ρ₁,I n a₁ h₁/\LRel ρ₁ a₁ act₁.tmps.toList/\Marks n₀ ρ₁ h₁ w₁ act₁.defers/\HRel P ρ₁ h₁ w₁/\Turn ρ h w ρ₁ h₁ w₁
 refine wpIn_loop_n J (n:=n) ⟨a,h,ρ,h₀,hr,hd,H,Turn.refl _ _ _⟩ ?_
 rintro n act₁ w₁ ⟨a₁,h₁,ρ₁,hI,hr₁,hd₁,H₁,T₁⟩
 refine round n a₁ h₁ hI n₀ ro _ _ _ _ (hrd.mono T₁.le) hr₁ hd₁ H₁ fun e a₂ h₂ ρ₂ act₂ w₂ k hr₂ hd₂ H₂ T₂=>?_
 cases e with
 | normal =>
  obtain ⟨m,hm,hI₂⟩:=k
  exact ⟨m,hm,a₂,h₂,ρ₂,hI₂,hr₂,hd₂,H₂,T₁.trans T₂⟩
 | exit id=>exact hQ (.exit id) a₂ h₂ ρ₂ act₂ w₂ k hr₂ hd₂ H₂ (T₁.trans T₂)
 | ret=>exact hQ .ret a₂ h₂ ρ₂ act₂ w₂ k hr₂ hd₂ H₂ (T₁.trans T₂)
def Told (P:Program) (rs:List ResultVar) (R:Value->AW->Prop):AExit->Slots->AW->Prop
 | .exit _,_,_=>False
 | _,a,h=>∃ vs,resultsB P a h rs=some vs/\R (tupleB vs) h
theorem HRel.putMark {ρ:Env} {w:World} {D:Nat} {ds:Option (List Deferred)} (H:HRel P ρ h w) (hD:w.heap[D]?=some (.deferred ds)) (ho:∀ r row l,h.get r=some row->row.own=true->ρ r=some l->l.block≠D) (o:Obj):HRel P ρ h (w.putObj D o):=by
 refine ⟨fun r row hr=>?_,H.inj,H.fresh,H.step⟩
 obtain ⟨l,hl,hrow⟩:=H.loc r row hr
 refine ⟨l,hl,?_⟩
 by_cases e:l.block=D
 ·cases hown:row.own with
  | true=>exact absurd e (ho r row l hr hown hl)
  | false =>
   cases row with
   | ro cs =>
    refine ⟨by rw [World.putObj_size]; exact hrow.1,fun i v hv=>?_⟩
    obtain ⟨u,hu,_⟩:=hrow.2 i v hv
    simp only [World.cell?,e,hD] at hu
    cases hu
   | _=>cases hown
 ·exact hrow.keep (Env.le_refl _) (World.putObj_heap_other e)
theorem Turn.putMark {ρ ρ':Env} {h':AW} {w w':World} {D:Nat} (T:Turn ρ h w ρ' h' w') (hD:w.heap.size<=D) (o:Obj):Turn ρ h w ρ' h' (w'.putObj D o) :=
 ⟨T.le,T.os,T.tape,T.output,by rw [World.putObj_size]; exact T.size,T.own,fun k hk hn=>(World.putObj_heap_other (by omega)).trans (T.keep k hk hn),T.new,T.next,T.steps⟩
theorem CQ.mk {f:FuncId} {fn:Func} {c:Code} {args:List Value} {a:Slots} {rs:List ResultVar} {R:Value->AW->Prop} (hf:P.funcs[f]?=some fn) (hb:fn.body=some c) (hrs:fn.results.toList=rs) (ha:join args (undefs (fn.ntmps - args.length))=some a)
  (hl:LQ none P c a h (Told P rs R)):CQ P f args h R:=by
 refine ⟨⟨fn,c,hf,hb⟩,fun ρ us w hus H=>?_⟩
 have ha:=join_eq ha
 refine callsIn_at (ro:=none) (n:=0) |>.1 (callsIn_of_wp_marks hf hb trivial ?_ rfl)
 have hlen:=hus.length
 have hr:LRel ρ a ((⟨us⟩:Array Value)++Array.replicate (fn.ntmps - (⟨us⟩:Array Value).size) undef).toList:=by
  rw [ha]
  simp only [Array.toList_append,Array.toList_replicate]
  refine hus.append ?_
  rw [hlen]
  exact undefs_rel _
 refine hl w.heap.size none _ { tmps:=_,defers:=[] } _ _ .none hr (Marks.nil _ _ _) H fun e a' h' ρ₁ act₁ w₁ k hr₁ hd₁ H₁ T₁=>?_
 have key:∀ vs,resultsB P a' h' rs=some vs->R (tupleB vs) h'->LeavesInM (wideAt none) 0 P fn act₁.tmps (fun e w'=>∃ v h' u ρ',e=.returned u/\R v h'/\VRel ρ' v u/\HRel P ρ' h' w'/\Turn ρ h w ρ' h' w') act₁.defers .returning w₁:=by
  intro vs hv hR
  rw [← hrs] at hv
  generalize act₁.defers=ds at hd₁
  clear k
  induction ds generalizing w₁ with
  | nil =>
   obtain ⟨us₁,hrun,hrel⟩:=results_sound hr₁ H₁ hv
   exact ⟨_,by rw [results_run,hrun]; rfl,_,h',_,ρ₁,rfl,hR,tupleB_rel hrel,H₁,T₁⟩
  | cons d ds ih =>
   obtain ⟨D,h1,h2,h3,h4⟩:=hd₁.each d (List.mem_cons_self ..)
   refine ⟨by simp,.inl ⟨D,_,h1,run_takeDeferred h3,?_⟩⟩
   refine ih _ (H₁.putMark h3 h4 _) (T₁.putMark h2 _) ⟨by rw [World.putObj_size]; exact hd₁.base,fun d' hd'=>?_,(List.nodup_cons.1 (by simpa using hd₁.nd)).2⟩
   obtain ⟨D',h1',h2',h3',h4'⟩:=hd₁.each d' (List.mem_cons_of_mem _ hd')
   refine ⟨D',h1',h2',(World.putObj_heap_other fun e=>?_).trans h3',h4'⟩
   subst e
   refine (List.nodup_cons.1 (by simpa using hd₁.nd)).1 (List.mem_map.2 ⟨d',hd',?_⟩)
   rw [h1,h1']
 cases e with
 | exit id=>exact k.elim
 | normal=>obtain ⟨vs,hv,hR⟩:=k; exact key vs hv hR
 | ret=>obtain ⟨vs,hv,hR⟩:=k; exact key vs hv hR
end
end
end Go.Am
namespace Go.Am
open Go.MapKept
open Go.ChangeMaps (setBlock)
section
variable {P:Program} {ops rest:List Oper} {o:Oper} {a a₁:Slots} {h h₁:AW} {K:Slots->AW->Prop}
theorem ERel.find {ρ:Env}:∀ {es es':List MapEntry} {e':MapEntry},ERel ρ es es'->e'∈es'->∃ e∈es,e.born=e'.born/\VRel ρ e.key e'.key/\VRel ρ e.val e'.val
 | [],es',e',R,hm=>by
  obtain ⟨h1,_,_⟩:=R
  simp only [List.map_nil] at h1
  generalize hx:List.map (·.key) es'=ks at h1
  cases h1
  have:es'=[]:=by simpa using hx
  subst this
  cases hm
 | x::es,[],e',R,hm=>by cases hm
 | x::es,y::es',e',R,hm=>by
  obtain ⟨h1,h2,h3⟩:=R
  simp only [List.map_cons,List.cons.injEq] at h1 h2 h3
  cases h1 with
  | cons hk1 h1 =>
  cases h2 with
  | cons hv1 h2 =>
  rcases List.mem_cons.1 hm with rfl | hm
  ·exact ⟨x,List.mem_cons_self ..,h3.1,hk1,hv1⟩
  ·obtain ⟨e,he,r⟩:=ERel.find (show ERel ρ es es' from ⟨h1,h2,h3.2⟩) hm
   exact ⟨e,List.mem_cons_of_mem _ he,r⟩
theorem ERel.borns {ρ:Env} {es es':List MapEntry} (R:ERel ρ es es') {e:MapEntry} (he:e∈es):∃ e'∈es',e'.born=e.born:=by
 have:e.born∈es'.map (·.born):=by rw [← R.2.2]; exact List.mem_map.2 ⟨e,he,rfl⟩
 obtain ⟨e',h1,h2⟩:=List.mem_map.1 this
 exact ⟨e',h1,h2⟩
theorem OQ.next {x:Operand} {r m since last clock:Nat} {seen:List Nat} {es:List MapEntry} (hw:wantedB ops o a=true) (ho:o.op=.next x false) (hx:aev a x=some (.pointer (some ⟨r,0,none⟩)))
  (hg:h.get r=some (.iter m since seen last)) (hgm:h.get m=some (.map es clock)) (hold:∀ e∈es,e.born < since) (hsl:since<=last)
  (kdone:(∀ e∈es,e.born∈seen)->∃ a₁,putAt a o.dst (.tuple #[.bool false])=some a₁/\OQ P ops rest a₁ h K)
  (kstep:∀ e∈es,e.born ∉ seen->∃ a₁ h₁,putAt a o.dst (.tuple #[.bool true,e.key,e.val])=some a₁/\h.put r (some (.iter m since (seen++[e.born]) clock))=some h₁/\OQ P ops rest a₁ h₁ K):OQ P ops (o::rest) a h K:=by
 intro ro ds opsA i ρ act w Q hops hd hr hdf H hQ
 obtain ⟨hoi,hrest⟩:=drop_at hops hd
 simp only [List.length_cons,List.range'_succ,wpOpsIn,hoi]
 rw [← wantedB_eq hr (by rw [hops]; exact sure_of_wanted hw),hops,hw,if_pos rfl]
 refine ⟨fun _ _=>trivial,?_⟩
 rw [Oper.semAt_eq _ _ _ (fun c hc=>by rw [ho] at hc; cases hc)]
 obtain ⟨l,lm,hl,hbase,hm,hh⟩:=H.at_iter hg
 obtain ⟨lm',es',hlm',hbm,R⟩:=H.at_map hgm
 rw [hm] at hlm'; simp only [Option.some.injEq] at hlm'; subst hlm'
 have hxr:=aev_rel hr hx
 generalize hev:act.eval x=xv at hxr
 cases hxr with
 | ptr hl' =>
  rw [hl] at hl'; simp only [Option.some.injEq] at hl'; subst hl'
  have hold':∀ y∈es'.toList,y.born < since:=fun y hy=>by
   obtain ⟨e,he,hb,_⟩:=R.find hy
   rw [← hb]; exact hold e he
  have hex:∀ u w',(Instr.next (.pointer (some ⟨l.block,0,none⟩)) false o.type).run P w=.ok u w'->(execOp act.eval o).run P w=.ok (.value u) w':=fun u w' hrun=>by
   simp only [execOp,ho,hev,hbase,Nat.zero_add]
   simp [hrun]
  rcases run_next_at (P:=P) w o.type l.block lm.block since last ⟨seen⟩ es' clock hh hbm hold' hsl with ⟨hsz,hrun⟩ | ⟨e',hem,w1,hw1,hrun⟩
  ·have hall:∀ e∈es,e.born∈seen:=fun e he=>by
    obtain ⟨e',he',hb⟩:=R.borns he
    have hempty:=Array.eq_empty_of_size_eq_zero hsz
    unfold leftOf at hempty
    rw [Array.filter_eq_empty_iff] at hempty
    have:=hempty (a:=e') (by simpa using he')
    simp at this
    rw [← hb]; exact this
   obtain ⟨a₁,ep,k⟩:=kdone hall
   rw [hex _ _ hrun]
   exact k ro _ _ _ _ _ _ Q hops hrest (putAt_rel ep hr (.tuple (.cons (.bool _) .nil))) (by rw [put_defers]; exact hdf) H hQ
  ·have hmem:e'∈es'.toList/\e'.born ∉ seen:=by
    unfold leftOf at hem
    simp at hem
    exact ⟨by simpa using hem.1,hem.2⟩
   obtain ⟨e,he,hb,hk,hv⟩:=R.find hmem.1
   obtain ⟨a₁,h₁,ep,hp,k⟩:=kstep e he (by rw [hb]; exact hmem.2)
   rw [hex _ _ hrun]
   have hh1:w1.heap=w.heap:=by rcases hw1 with rfl | rfl <;> rfl
   have H1:HRel P ρ h w1:=H.draw hh1
   have hhb:w1.heap[l.block]?=some (.mapIter (some lm.block) since ⟨seen⟩ last):=by rw [hh1]; exact hh
   obtain ⟨A,B⟩:=H1.writeRow (o1:=.mapIter (some lm.block) since ((⟨seen⟩:Array Nat).push e'.born) clock) hg rfl hl hhb hp (by
    refine ⟨hbase,lm,hm,?_⟩
    rw [(heap_set hhb).1,hb]
    simp)
   have B':Turn ρ h w ρ h₁ (setBlock w1 l.block (.mapIter (some lm.block) since ((⟨seen⟩:Array Nat).push e'.born) clock)):=B.draw hh1 (by rcases hw1 with rfl | rfl <;> rfl) (by rcases hw1 with rfl | rfl <;> rfl) (by rcases hw1 with rfl | rfl <;> rfl)
   exact k ro _ _ _ _ _ _ Q hops hrest (putAt_rel ep hr (.tuple (.cons (.bool _) (.cons hk (.cons hv .nil))))) (by rw [put_defers]; exact hdf) A (fun a' h' ρ' act' w' kk x1 x2 x3 x4=>hQ a' h' ρ' act' w' kk x1 x2 x3 (B'.trans x4))
end
end Go.Am
end
section
namespace Go.Am
theorem Tr.set_some {α:Type}:∀ (f:Nat) (t:Tr α) (n:Nat) (x:Option α),n < f->∃ t',Tr.set f t n x=some t'
 | 0,_,_,_,h=>by omega
 | f+1,.nil,n,x,h=>by
  rw [Tr.set]
  by_cases hn:n=0
  ·subst hn; exact ⟨_,rfl⟩
  ·simp only [beq_false hn]
   by_cases h2:n % 2=1
   ·obtain ⟨l,e⟩:=Tr.set_some f .nil (n / 2) x (by omega)
    simp only [beq_true h2,e]; exact ⟨_,rfl⟩
   ·obtain ⟨l,e⟩:=Tr.set_some f .nil (n / 2 - 1) x (by omega)
    simp only [beq_false h2,e]; exact ⟨_,rfl⟩
 | f+1,.node l v r,n,x,h=>by
  rw [Tr.set]
  by_cases hn:n=0
  ·subst hn; exact ⟨_,rfl⟩
  ·simp only [beq_false hn]
   by_cases h2:n % 2=1
   ·obtain ⟨l,e⟩:=Tr.set_some f l (n / 2) x (by omega)
    simp only [beq_true h2,e]; exact ⟨_,rfl⟩
   ·obtain ⟨l,e⟩:=Tr.set_some f r (n / 2 - 1) x (by omega)
    simp only [beq_false h2,e]; exact ⟨_,rfl⟩
theorem AW.put_some (h:AW) (r:Nat) (x:Option ARow):∃ h',h.put r x=some h':=by
 obtain ⟨t,e⟩:=Tr.set_some (r+1) h.rows r x (by omega)
 unfold AW.put; rw [e]; exact ⟨_,rfl⟩
theorem AW.new_some (h:AW) (x:ARow):∃ h',h.new x=some (h.next,h'):=by
 obtain ⟨t,e⟩:=Tr.set_some (h.next+1) h.rows h.next (some x) (by omega)
 have hf:∀ n,fn n=some n:=fun n=>by cases n <;> rfl
 unfold AW.new; rw [e,hf]; exact ⟨_,rfl⟩
abbrev RL:=List (Nat × ARow)
structure Has (h:AW) (L:RL):Prop where
 get:∀ p,p∈L->h.get p.1=some p.2
 nd:(L.map (·.1)).Nodup
 lt:∀ p,p∈L->p.1 < h.next
 step:0 < h.step
section
variable {h h':AW} {L L':RL} {r:Nat} {x:ARow}
theorem Has.at {i:Nat} (H:Has h L) (e:L[i]?=some (r,x)):h.get r=some x:=H.get (r,x) (List.mem_of_getElem? e)
theorem Has.new (H:Has h L) (e:h.new x=some (r,h')):Has h' ((r,x)::L):=by
 obtain ⟨hr,hg,hn,hs⟩:=new_eq e
 have hp:=H.step
 have hne:∀ p,p∈L->p.1≠r:=fun p hp hh=>by have:=H.lt p hp; omega
 refine ⟨fun p hm=>?_,?_,fun p hm=>?_,by rw [hs]; exact H.step⟩
 ·rw [hg]
  rcases List.mem_cons.1 hm with rfl | hm
  ·simp
  ·rw [if_neg (hne p hm)]; exact H.get p hm
 ·rw [List.map_cons,List.nodup_cons]
  refine ⟨fun hm=>?_,H.nd⟩
  obtain ⟨p,hp,he⟩:=List.mem_map.1 hm
  exact hne p hp he
 ·rcases List.mem_cons.1 hm with rfl | hm
  ·simp only; omega
  ·have:=H.lt p hm; omega
theorem nodup_same:∀ {L:RL} {i:Nat} {r:Nat} {x:ARow},(L.map (·.1)).Nodup->L[i]?=some (r,x)->∀ {j:Nat} {y:ARow},L[j]?=some (r,y)->i=j:=by
 intro L i r x hn hi j y hj
 have h1:(L.map (·.1))[i]?=some r:=by simp [hi]
 have h2:(L.map (·.1))[j]?=some r:=by simp [hj]
 have hlt:i < (L.map (·.1)).length:=(List.getElem?_eq_some_iff.1 h1).1
 exact (List.getElem?_inj hlt hn).1 (h1.trans h2.symm)
theorem Has.put {i:Nat} {y:ARow} (H:Has h L) (hi:L[i]?=some (r,y)) (e:h.put r (some x)=some h'):Has h' (L.set i (r,x)):=by
 obtain ⟨hg,hn,hs⟩:=put_eq e
 have hlt:i < L.length:=(List.getElem?_eq_some_iff.1 hi).1
 have hmem:∀ p,p∈L.set i (r,x)->p=(r,x)∨(p∈L/\p.1≠r):=fun p hp=>by
  obtain ⟨j,hj⟩:=List.mem_iff_getElem?.1 hp
  rw [List.getElem?_set] at hj
  by_cases hij:i=j
  ·subst hij; rw [if_pos rfl,if_pos hlt] at hj; simp at hj; exact .inl hj.symm
  ·rw [if_neg hij] at hj
   obtain ⟨r',y'⟩:=p
   exact .inr ⟨List.mem_of_getElem? hj,fun hh=>by simp at hh; subst hh; exact hij (nodup_same H.nd hi hj)⟩
 have hmap:(L.set i (r,x)).map (·.1)=L.map (·.1):=by
  rw [List.map_set]
  apply List.ext_getElem?
  intro j
  rw [List.getElem?_set]
  by_cases hij:i=j
  ·subst hij
   have hLi:L[i]=(r,y):=(List.getElem?_eq_some_iff.1 hi).2
   simp [hlt,hLi]
  ·rw [if_neg hij]
 refine ⟨fun p hm=>?_,by rw [hmap]; exact H.nd,fun p hm=>?_,by rw [hs]; exact H.step⟩
 ·rw [hg]
  rcases hmem p hm with rfl | ⟨hm,hne⟩
  ·simp
  ·rw [if_neg hne]; exact H.get p hm
 ·rw [hn]
  rcases hmem p hm with rfl | ⟨hm,hne⟩
  ·exact H.lt (r,y) (List.mem_of_getElem? hi)
  ·exact H.lt p hm
theorem Has.sub (H:Has h L) (hs:∀ p,p∈L'->p∈L) (hn:(L'.map (·.1)).Nodup):Has h L':=⟨fun p hp=>H.get p (hs p hp),hn,fun p hp=>H.lt p (hs p hp),H.step⟩
theorem Has.perm (H:Has h L) (hp:L.Perm L'):Has h L':=H.sub (fun p hm=>hp.mem_iff.2 hm) ((hp.map _).nodup_iff.1 H.nd)
theorem Has.less (H:Has h L) (hs:L'.Sublist L):Has h L':=H.sub (fun p hm=>hs.subset hm) (H.nd.sublist (hs.map _))
theorem Has.drop {i:Nat} {y:ARow} (H:Has h L) (hi:L[i]?=some (r,y)) (e:h.put r none=some h'):Has h' (L.eraseIdx i):=by
 obtain ⟨hg,hn,hs⟩:=put_eq e
 have hsub:(L.eraseIdx i).Sublist L:=List.eraseIdx_sublist ..
 have hmem:∀ p,p∈L.eraseIdx i->p∈L/\p.1≠r:=fun p hp=>by
  rw [List.mem_eraseIdx_iff_getElem?] at hp
  obtain ⟨j,hne,hj⟩:=hp
  obtain ⟨r',y'⟩:=p
  exact ⟨List.mem_of_getElem? hj,fun hh=>by simp at hh; subst hh; exact hne (nodup_same H.nd hj hi)⟩
 exact ⟨fun p hm=>by rw [hg,if_neg (hmem p hm).2]; exact H.get p (hmem p hm).1,H.nd.sublist (hsub.map _),fun p hm=>by rw [hn]; exact H.lt p (hmem p hm).1,by rw [hs]; exact H.step⟩
end
section
variable {P:Program}
def OS (P:Program) (ops rest:List Oper) (a:Slots) (L:RL) (K:Slots->RL->Prop):Prop :=
 ∀ h,Has h L->OQ P ops rest a h fun a' h'=>∃ L',K a' L'/\Has h' L'
def LSr (rd:Option Nat) (P:Program) (c:Code) (a:Slots) (L:RL) (R:AExit->Slots->RL->Prop):Prop :=
 ∀ h,Has h L->LQ rd P c a h fun e a' h'=>∃ L',R e a' L'/\Has h' L'
abbrev LS (P:Program) (c:Code) (a:Slots) (L:RL) (R:AExit->Slots->RL->Prop):Prop:=LSr none P c a L R
def CS (P:Program) (f:FuncId) (args:List Value) (L:RL) (R:Value->RL->Prop):Prop :=
 ∀ h,Has h L->CQ P f args h fun v h'=>∃ L',R v L'/\Has h' L'
section
variable {ops rest:List Oper} {o:Oper} {a a₁ a':Slots} {L L' L₁:RL} {v:Value} {K:Slots->RL->Prop}
def Sub (L' L:RL):Prop:=∃ M,L.Perm (L'++M)
theorem Sub.has {h:AW} (s:Sub L' L) (H:Has h L):Has h L':=by
 obtain ⟨M,p⟩:=s
 exact (H.perm p).less (List.sublist_append_left _ _)
theorem xN (k:K a L):OS P ops [] a L K:=fun h H=>OQ.nil ⟨L,k,H⟩
theorem OS.sub (s:Sub L' L) (k:OS P ops rest a L' K):OS P ops rest a L K:=fun h H=>k h (s.has H)
theorem xP (hw:wantedB ops o a=true) (e:∀ h,opB P a o h=some (.val v h)) (ep:putAt a o.dst v=some a₁) (k:OS P ops rest a₁ L K):OS P ops (o::rest) a L K :=
 fun h H=>OQ.val hw (e h) ep (k h H)
theorem xR (hw:wantedB ops o a=true) (e:∀ h,Has h L->opB P a o h=some (.val v h)) (ep:putAt a o.dst v=some a₁) (k:OS P ops rest a₁ L K):OS P ops (o::rest) a L K :=
 fun h H=>OQ.val hw (e h H) ep (k h H)
theorem OS.write (hw:wantedB ops o a=true) (e:∀ h,Has h L->∃ h₁,opB P a o h=some (.val v h₁)/\Has h₁ L₁) (ep:putAt a o.dst v=some a₁) (k:OS P ops rest a₁ L₁ K):OS P ops (o::rest) a L K :=
 fun h H=>let ⟨h₁,e₁,H₁⟩:=e h H; OQ.val hw e₁ ep (k h₁ H₁)
theorem OS.fresh {V:Nat->Value} {A:Nat->Slots} {M:Nat->RL} (hw:wantedB ops o a=true) (e:∀ h,Has h L->∃ r h₁,opB P a o h=some (.val (V r) h₁)/\Has h₁ (M r)) (ep:∀ r,putAt a o.dst (V r)=some (A r)) (k:∀ r,OS P ops rest (A r) (M r) K):OS P ops (o::rest) a L K :=
 fun h H=>let ⟨r,h₁,e₁,H₁⟩:=e h H; OQ.val hw e₁ (ep r) (k r h₁ H₁)
theorem xK (hw:skipB ops o a=true) (ep:putAt a o.dst undef=some a₁) (k:OS P ops rest a₁ L K):OS P ops (o::rest) a L K :=
 fun h H=>OQ.skip hw ep (k h H)
theorem xA (hg:noGo P=true) {f:FuncId} {args:List Value} (hw:wantedB ops o a=true) (e:∀ h,opB P a o h=some (.call f args)) (hc:CS P f args L fun v L₁=>∃ a₁,putAt a o.dst v=some a₁/\OS P ops rest a₁ L₁ K):OS P ops (o::rest) a L K :=
 fun h H=>OQ.call hg hw (e h) ((hc h H).mono fun v h' ⟨L',⟨a₁,ep,k⟩,H'⟩=>⟨a₁,ep,k h' H'⟩)
end
abbrev ThenS (next:Slots->RL->Prop) (R:AExit->Slots->RL->Prop):AExit->Slots->RL->Prop
 | .normal,a,h=>next a h
 | e,a,h=>R e a h
abbrev WithinS (id:Nat) (R:AExit->Slots->RL->Prop):AExit->Slots->RL->Prop
 | .exit id',a,h=>if id'=id then R .normal a h else R (.exit id') a h
 | e,a,h=>R e a h
abbrev ToldS (P:Program) (rs:List ResultVar) (R:Value->RL->Prop):AExit->Slots->RL->Prop
 | .exit _,_,_=>False
 | _,a,L=>∃ vs,(∀ h,Has h L->resultsB P a h rs=some vs)/\R (tupleB vs) L
section
variable {rd:Option Nat} {x y:Code} {a:Slots} {L L':RL} {R R':AExit->Slots->RL->Prop}
theorem LS.mono (k:LSr rd P x a L R) (hr:∀ e a h,R e a h->R' e a h):LSr rd P x a L R' :=
 fun h H=>(k h H).mono fun e a h ⟨L',r,H'⟩=>⟨L',hr _ _ _ r,H'⟩
theorem LSr.mono (k:LSr rd P x a L R) (hr:∀ e a h,R e a h->R' e a h):LSr rd P x a L R':=LS.mono k hr
theorem LS.sub (s:Sub L' L) (k:LSr rd P x a L' R):LSr rd P x a L R:=fun h H=>k h (s.has H)
theorem LS.skip (k:R .normal a L):LSr rd P .skip a L R:=fun h H=>LQ.skip ⟨L,k,H⟩
theorem xT (k:R .ret a L):LSr rd P .ret a L R:=fun h H=>LQ.ret ⟨L,k,H⟩
theorem LS.exit {id:Nat} (k:R (.exit id) a L):LSr rd P (.exit id) a L R:=fun h H=>LQ.exit ⟨L,k,H⟩
theorem xG {id:Nat} {ops:Array Oper} {l:List Oper} (hl:ops.toList=l) (k:OS P l l a L (R .normal)):LSr rd P (.region id ops false) a L R:=fun h H=>LQ.region hl (k h H)
theorem xQ (hx:LSr rd P x a L (ThenS (fun a L=>LSr rd P y a L R) R)):LSr rd P (.seq x y) a L R :=
 fun h H=>LQ.seq ((hx h H).mono fun e a h ⟨L',r,H'⟩=>by
  cases e with
  | normal=>exact r h H'
  | exit id=>exact ⟨L',r,H'⟩
  | ret=>exact ⟨L',r,H'⟩)
theorem xC {c:Operand} {b:Bool} (hc:aev a c=some (.bool b)) (hx:b=true->LSr rd P x a L R) (hy:b=false->LSr rd P y a L R):LSr rd P (.cond c x y) a L R :=
 fun h H=>LQ.cond hc (fun e=>hx e h H) (fun e=>hy e h H)
theorem LS.block {id:Nat} (hx:LSr rd P x a L (WithinS id R)):LSr rd P (.block id x) a L R :=
 fun h H=>LQ.block ((hx h H).mono fun e a h ⟨L',r,H'⟩=>by
  cases e with
  | normal=>exact ⟨L',r,H'⟩
  | ret=>exact ⟨L',r,H'⟩
  | exit id' =>
   simp only [Within,WithinS] at r ⊢
   split
   ·rename_i he; rw [if_pos he] at r; exact ⟨L',r,H'⟩
   ·rename_i he; rw [if_neg he] at r; exact ⟨L',r,H'⟩)
theorem LS.loop (I:Nat->Slots->RL->Prop) {n:Nat} (h₀:I n a L) (round:∀ n a L,I n a L->LSr rd P x a L (ThenS (fun a' L'=>∃ m,m < n/\I m a' L') R)):LSr rd P (.loop x) a L R :=
 fun h H=>LQ.loop (fun n a h=>∃ L,I n a L/\Has h L) ⟨L,h₀,H⟩ fun n a h ⟨L,i,H⟩=>(round n a L i h H).mono fun e a h ⟨L',r,H'⟩=>by
  cases e with
  | normal=>obtain ⟨m,hm,i'⟩:=r; exact ⟨m,hm,L',i',H'⟩
  | exit id=>exact ⟨L',r,H'⟩
  | ret=>exact ⟨L',r,H'⟩
end
section
variable {f:FuncId} {args:List Value} {L L':RL} {R R':Value->RL->Prop}
theorem CS.mono (c:CS P f args L R) (hr:∀ v L',R v L'->R' v L'):CS P f args L R':=fun h H=>(c h H).mono fun v h' ⟨L',r,H'⟩=>⟨L',hr _ _ r,H'⟩
theorem CS.sub (s:Sub L' L) (k:CS P f args L' R):CS P f args L R:=fun h H=>k h (s.has H)
theorem CS.mk {fn:Func} {c:Code} {a:Slots} {rs:List ResultVar} (hf:P.funcs[f]?=some fn) (hb:fn.body=some c) (hrs:fn.results.toList=rs) (ha:join args (undefs (fn.ntmps - args.length))=some a)
  (hl:LS P c a L (ToldS P rs R)):CS P f args L R :=
 fun h H=>CQ.mk hf hb hrs ha ((hl h H).mono fun e a h ⟨L',r,H'⟩=>by
  cases e with
  | exit id=>exact r.elim
  | normal=>obtain ⟨vs,hv,r⟩:=r; exact ⟨vs,hv h H',L',r,H'⟩
  | ret=>obtain ⟨vs,hv,r⟩:=r; exact ⟨vs,hv h H',L',r,H'⟩)
end
theorem VRel.flat_eq {ρ:Env} {v u:Value} (h:VRel ρ v u) (hf:flat v=true):u=v:=by
 cases h <;> first | rfl | (simp [flat] at hf; done)
theorem LRel.flat_eq {ρ:Env}:∀ {vs us:List Value},LRel ρ vs us->allFlat vs=true->us=vs
 | _,_,.nil,_=>rfl
 | _,_,.cons a b,h=>by
  simp only [allFlat] at h
  split at h
  ·rw [VRel.flat_eq a (by assumption),LRel.flat_eq b h]
  ·cases h
theorem CS.closed (hg:noGo P=true) (hmix:P.follows .mixedOrders=true) {known:Known} (hk:Sound P known) {fuel depth:Nat} {f:FuncId} {args:List Value} {v:Value} {h₁:AW} {L:RL}
  (ha:allFlat args=true) (hv:flat v=true) (e:callB P known fuel depth f args AW.empty=some (v,h₁)):CS P f args L fun v' L'=>v'=v/\L'=L:=by
 intro h H
 have s:=callB_sound hg hmix hk fuel depth f args AW.empty v h₁ e
 refine ⟨s.1,fun ρ us w hus HR=>?_⟩
 have hus':=hus.flat_eq ha
 subst hus'
 refine (s.2 (fun _=>none) us w (.of_allFlat ha) (empty_rel w)).mono ?_
 rintro en w' ⟨u,ρ',rfl,hvu,H',T⟩
 have hu:=hvu.flat_eq hv
 subst hu
 have keep:∀ k,k < w.heap.size->w'.heap[k]?=w.heap[k]?:=fun k hk=>T.keep k hk fun r row l hr=>(by cases hr)
 refine ⟨u,h,u,ρ,rfl,⟨L,⟨rfl,rfl⟩,H⟩,.of_flat hv,⟨fun r row hr=>?_,HR.inj,HR.fresh,HR.step⟩,⟨Env.le_refl _,T.os,T.tape,T.output,T.size,fun r row l hr ho hl _=>⟨r,row,l,hr,ho,hl,rfl⟩,fun k hk _=>keep k hk,fun _ _ e=>.inl e,⟨0,by simp⟩,rfl⟩⟩
 obtain ⟨l,hl,hr'⟩:=HR.loc r row hr
 exact ⟨l,hl,hr'.keep (Env.le_refl _) (keep _ hr'.lt)⟩
end
end Go.Am
namespace Go.Am
section
variable {P:Program}
def voidB (P:Program) (o:Oper):Bool :=
 match o.op with
 | .buildSlice t 0 ⟨[]⟩=>match P.underlying t with
  | some (.slice e)=>match sizeB P e,zerosB P e with
   | some n,some zs=>Nat.beq zs.length n
   | _,_=>false
  | _=>false
 | _=>false
theorem voidB_op {o:Oper} (e:voidB P o=true):∃ t el n zs,o.op=.buildSlice t 0 #[]/\P.underlying t=some (.slice el)/\sizeB P el=some n/\zerosB P el=some zs/\zs.length=n:=by
 unfold voidB at e
 split at e
 case h_2=>cases e
 rename_i t ho
 split at e
 case h_2=>cases e
 rename_i el hu
 split at e
 case h_2=>cases e
 rename_i n zs hn hz
 exact ⟨t,el,n,zs,ho,hu,hn,hz,of_beq e⟩
theorem void_done {ρ:Env} {h:AW} {w:World} {t el:TypeId} {n r off:Nat} {zs:List Value} (H:HRel P ρ h w) (hu:P.underlying t=some (.slice el)) (hn:sizeB P el=some n) :
  Done P ρ h w (Instr.buildSlice t 0 #[]) (.slice (some ⟨r,off,none⟩) 0 0) h:=by
 have old:∀ k,k < w.heap.size->(w.alloc (.cells #[] el)).heap[k]?=w.heap[k]?:=fun k hk=>by
  show (w.heap.push _)[k]?=_
  rw [Array.getElem?_push,if_neg (by omega)]
 refine ⟨.slice (some ⟨w.heap.size,0,none⟩) 0 0,w.alloc (.cells #[] el),ρ,?_,.slice (Nat.le_refl _) (fun _=>rfl) (fun h=>absurd rfl h),⟨fun m row hm=>?_,H.inj,H.fresh,H.step⟩,
  ⟨Env.le_refl _,rfl,rfl,rfl,?_,fun r row l hr ho hl _=>⟨r,row,l,hr,ho,hl,rfl⟩,fun k hk _=>old k hk,fun _ _ e=>.inl e,⟨0,by simp⟩,rfl⟩⟩
 ·have hno:¬ (0 * n > 2 ^ 24):=by omega
  have h0:0 * n=0:=by omega
  simp only [Instr.buildSlice,Sem.run_bind,run_underlying hu,Result.andThen_ok,run_size hn]
  rw [if_neg hno,if_pos h0]
  have hf:Instr.fill (fun i=>some (i * n,n)) (Array.map (fun x=>(#[]:Array Value)[x % (#[]:Array Value).size]!) (Array.range 0)) []=some #[]:=by
   have hr:(Array.map (fun x=>(#[]:Array Value)[x % (#[]:Array Value).size]!) (Array.range 0))=#[]:=by apply Array.eq_empty_of_size_eq_zero; simp
   rw [hr]; simp [Instr.fill]
  simp only [Sem.run_bind,Sem.run_pure,Result.andThen_ok,h0,hf,newRow,run_newObj]
  rfl
 ·obtain ⟨l',hl',hr'⟩:=H.loc m row hm
  exact ⟨l',hl',hr'.keep (Env.le_refl _) (old _ hr'.lt)⟩
 ·show w.heap.size<=(w.heap.push _).size
  simp
def StepQ (P:Program) (a:Slots) (o:Oper) (h:AW) (v:Value):Prop :=
 opB P a o h=some (.val v h)∨(∃ f args,opB P a o h=some (.call f args)/\CQ P f args h fun v' h'=>v'=v/\h'=h)∨(voidB P o=true/\∃ r off,v=.slice (some ⟨r,off,none⟩) 0 0)
def StepW (P:Program) (a:Slots) (o:Oper) (h:AW) (R:Value->AW->Prop):Prop :=
 (∃ v h',opB P a o h=some (.val v h')/\R v h')∨∃ f args,opB P a o h=some (.call f args)/\CQ P f args h R
abbrev Dn:=List (Nat × Slots × Value)
def OD (P:Program) (ops:List Oper) (ms:List Nat) (K:Slots->AW->Prop):List (Nat × Bool)->Dn->Slots->AW->Prop
 | [],_,a,h=>K a h
 | (i,wr)::sched,dn,a,h=>∃ o,ops[i]?=some o /\
  ((skipB ops o a=true/\∃ a₁,putAt a o.dst undef=some a₁/\OD P ops ms K sched dn a₁ h) ∨
   (wantedB ops o a=true/\wr=false/\∃ v a₁,StepQ P a o h v/\putAt a o.dst v=some a₁/\OD P ops ms K sched ((i,a,v)::dn) a₁ h) ∨
   (wantedB ops o a=true/\wr=true/\StepW P a o h fun v h₁=>∃ a₁,putAt a o.dst v=some a₁ /\
    (∀ e,e∈dn->ahead ms i e.1=false->∀ p,ops[e.1]?=some p->StepQ P e.2.1 p h₁ e.2.2)/\OD P ops ms K sched dn a₁ h₁))
def rowOkB (ms:List Nat):List (Nat × Bool)->List (Nat × Bool)->Bool
 | _,[]=>true
 | pre,(i,wr)::rest =>
  match pre.all (fun p=>(!p.2 || ahead ms i p.1) && !(ahead ms p.1 i)) with
  | true=>rowOkB ms ((i,wr)::pre) rest
  | false=>false
def coversB (n:Nat) (s:List Nat):Bool:=(List.range n).all fun i=>hasNat s i
def drawOk2 (ops:List Oper) (ms:List Nat) (sched:List (Nat × Bool)):Bool :=
 ((onceB (dstsB ops) && backB ops 0) && allSorted ms ops ops 0) && (rowOkB ms [] sched && (coversB ops.length (sched.map (·.1)) && onceB (sched.map (·.1))))
theorem rowOk_spec {ms:List Nat}:∀ {rest pre:List (Nat × Bool)},rowOkB ms pre rest=true->∀ s x t,rest=s++x::t->∀ p,(p∈pre∨p∈s)->(p.2=true->ahead ms x.1 p.1=true)/\ahead ms p.1 x.1=false
 | [],pre,_,s,x,t,hs,_,_=>by simp at hs
 | (i,wr)::rest,pre,h,s,x,t,hs,p,hp=>by
  simp only [rowOkB] at h
  split at h
  case h_2=>cases h
  rename_i hall
  cases s with
  | nil =>
   simp at hs
   obtain ⟨rfl,rfl⟩:=hs
   simp at hp
   have:=List.all_eq_true.1 hall p hp
   simp only [Bool.and_eq_true,Bool.or_eq_true,Bool.not_eq_true'] at this
   exact ⟨fun hh=>(this.1.resolve_left (by simp [hh])),this.2⟩
  | cons y s =>
   simp at hs
   obtain ⟨rfl,hs⟩:=hs
   refine rowOk_spec h s x t hs p ?_
   rcases hp with hp | hp
   ·exact .inl (List.mem_cons_of_mem _ hp)
   ·rcases List.mem_cons.1 hp with rfl | hp
    ·exact .inl (by simp)
    ·exact .inr hp
structure Mom (P:Program) (ops:List Oper) (ms:List Nat) (K:Slots->AW->Prop) (sched:List (Nat × Bool)) (a₀:Slots) (S:Nat->Prop) (h:AW) (pre post:List (Nat × Bool)) (dn:Dn) (a:Slots) (val:Nat->Value):Prop where
 row:sched=pre++post
 od:OD P ops ms K post dn a h
 len:a.length=a₀.length
 slot:∀ j o d,(∃ b,(j,b)∈pre)->ops[j]?=some o->o.dst=some d->a[d]?=some (val j)
 slot0:∀ t,(∀ j o,(∃ b,(j,b)∈pre)->ops[j]?=some o->o.dst≠some t)->a[t]?=a₀[t]?
 out:∀ j b,(j,b)∈post->¬ S j
 pend:∀ j b o,(j,b)∈pre->¬ S j->ops[j]?=some o->∃ aj,aj.length=a₀.length /\
  (∀ t,t∈looksB ops o->(∀ q oq,ops[q]?=some oq->oq.dst=some t->ahead ms j q=true->aj[t]?=some (val q))/\((∀ q oq,ops[q]?=some oq->oq.dst=some t->ahead ms j q=false)->aj[t]?=a₀[t]?)) /\
  ((skipB ops o aj=true/\val j=undef)∨(wantedB ops o aj=true/\(j,aj,val j)∈dn/\StepQ P aj o h (val j)))
structure Ord (ops:List Oper) (ms:List Nat) (sched:List (Nat × Bool)):Prop where
 once:Once ops
 back:∀ i o,ops[i]?=some o->∀ j,ahead ms i j=true->j < i
 sorted:∀ i o j q d,ops[i]?=some o->ops[j]?=some q->q.dst=some d->d∈looksB ops o->j≠i->(j < i->ahead ms i j=true)/\(i < j->ahead ms j i=true)
 row:∀ s x t,sched=s++x::t->∀ p,p∈s->(p.2=true->ahead ms x.1 p.1=true)/\ahead ms p.1 x.1=false
 all:∀ i o,ops[i]?=some o->∃ b,(i,b)∈sched
 nd:(sched.map (·.1)).Nodup
theorem nodup_once:∀ {l:List Nat},onceB l=true->l.Nodup
 | [],_=>List.nodup_nil
 | x::xs,h=>by
  simp only [onceB] at h
  split at h
  ·cases h
  ·rename_i hn
   refine List.nodup_cons.2 ⟨fun hm=>?_,nodup_once h⟩
   rw [hasNat_mem.2 hm] at hn; cases hn
theorem ord_of {ops:List Oper} {ms:List Nat} {sched:List (Nat × Bool)} (hm:masksB ops []=some ms) (hok:drawOk2 ops ms sched=true):Ord ops ms sched/\backB ops 0=true:=by
 simp only [drawOk2,Bool.and_eq_true] at hok
 obtain ⟨⟨⟨hon,hback⟩,hsort⟩,hrow,hcov,hnd⟩:=hok
 refine ⟨⟨once_spec hon,fun i o ho=>closed_ahead hm hback (S:=fun j=>j < i) (fun j q hj hq e he hbe=>by have:=backB_spec hback j q hq e he hbe; omega) i o ho (fun e he hbe=>by have:=backB_spec hback i o ho e he hbe; omega),fun i o j q d hi hj hd hl hne=>?_,fun s x t hs p hp=>rowOk_spec hrow s x t hs p (.inr hp),fun i o hi=>?_,nodup_once hnd⟩,hback⟩
 ·have:=allSorted_spec hsort i o hi j q d hj hd hl (by omega)
  simpa using this
 ·have:=List.all_eq_true.1 hcov i (by simpa using (List.getElem?_eq_some_iff.1 hi).1)
  obtain ⟨p,hp,he⟩:=List.mem_map.1 (hasNat_mem.1 this)
  exact ⟨p.2,by subst he; exact hp⟩
section
variable {ops:List Oper} {ms:List Nat} {K:Slots->AW->Prop} {sched:List (Nat × Bool)} {a₀:Slots} {S:Nat->Prop} {h:AW} {post:List (Nat × Bool)}
theorem Mom.step (hO:Ord ops ms sched) {i:Nat} {wr:Bool} {o:Oper} {pre:List (Nat × Bool)} {dn dn':Dn} {a a₁:Slots} {val:Nat->Value} {v:Value} {h':AW} {S':Nat->Prop} (M:Mom P ops ms K sched a₀ S h pre ((i,wr)::post) dn a val)
  (hi:ops[i]?=some o) (ep:putAt a o.dst v=some a₁) (od:OD P ops ms K post dn' a₁ h') (hdn:∀ e,e∈dn->e∈dn') (hS:∀ j,j≠i->(S' j↔S j))
  (hold:∀ j aj u p,¬ S j->(j,aj,u)∈dn->ops[j]?=some p->StepQ P aj p h u->StepQ P aj p h' u)
  (here:¬ S' i->(skipB ops o a=true/\v=undef)∨(wantedB ops o a=true/\(i,a,v)∈dn'/\StepQ P a o h' v)) :
  Mom P ops ms K sched a₀ S' h' (pre++[(i,wr)]) post dn' a₁ fun j=>if j=i then v else val j:=by
 obtain ⟨hal,had,hag⟩:=putAt_get ep
 have hrow:=M.row
 have hnd:=hO.nd
 rw [hrow,List.map_append,List.map_cons,List.nodup_append] at hnd
 obtain ⟨nd1,nd2,nd3⟩:=hnd
 have hpre:∀ j b,(j,b)∈pre->j≠i:=fun j b hm hh=>by
  subst hh
  exact nd3 j (List.mem_map.2 ⟨_,hm,rfl⟩) j (by simp) rfl
 have hpost:∀ j b,(j,b)∈post->j≠i:=fun j b hm hh=>by
  subst hh
  exact (List.nodup_cons.1 nd2).1 (List.mem_map.2 ⟨_,hm,rfl⟩)
 have hrow_i:=hO.row pre (i,wr) post hrow
 refine ⟨by rw [hrow]; simp,od,hal.trans M.len,?_,?_,?_,?_⟩
 ·rintro j p d ⟨b,hm⟩ hj hd
  rw [hag]
  by_cases hji:j=i
  ·subst hji; rw [hi] at hj; simp at hj; subst hj; simp [hd]
  ·rw [if_neg hji]
   have hm':(j,b)∈pre:=by simpa [hji] using hm
   rw [if_neg (fun hh=>hji (hO.once j i p o d hj hi hd hh))]
   exact M.slot j p d ⟨b,hm'⟩ hj hd
 ·intro t ht
  rw [hag,if_neg (ht i o ⟨wr,by simp⟩ hi)]
  exact M.slot0 t fun j p ⟨b,hm⟩ hj=>ht j p ⟨b,by simp [hm]⟩ hj
 ·intro j b hm hs
  have hne:=hpost j b hm
  exact M.out j b (by simp [hm]) ((hS j hne).1 hs)
 ·intro j b p hm hs hj
  by_cases hji:j=i
  ·subst hji
   rw [hi] at hj; simp at hj; subst hj
   have hlt:∀ q,ahead ms j q=true->q≠j:=fun q hq hh=>by subst hh; exact absurd (hO.back q o hi q hq) (Nat.lt_irrefl q)
   refine ⟨a,M.len,fun t ht=>⟨fun q oq hq hd hah=>?_,fun hno=>?_⟩,?_⟩
   ·rw [if_neg (hlt q hah)]
    obtain ⟨bq,hmq⟩:=hO.all q oq hq
    rw [hrow] at hmq
    rcases List.mem_append.1 hmq with hmq | hmq
    ·exact M.slot q oq t ⟨bq,hmq⟩ hq hd
    ·exfalso
     rcases List.mem_cons.1 hmq with hmq | hmq
     ·simp at hmq; exact hlt q hah hmq.1
     ·obtain ⟨s1,s2,rfl⟩:=List.append_of_mem hmq
      have:=(hO.row (pre++(j,wr)::s1) (q,bq) s2 (by rw [hrow]; simp) (j,wr) (by simp)).2
      simp only at this
      rw [hah] at this; cases this
   ·exact M.slot0 t fun q oq ⟨bq,hmq⟩ hq hd=>by
     have hne:=hpre q bq hmq
     obtain ⟨s1,s2⟩:=hO.sorted j o q oq t hi hq hd ht hne
     rcases Nat.lt_or_gt_of_ne hne with hlt' | hgt
     ·rw [hno q oq hq hd] at s1; exact absurd (s1 hlt') (by simp)
     ·have:=(hrow_i (q,bq) hmq).2
      simp only at this
      rw [s2 hgt] at this; cases this
   ·rw [if_pos rfl]; exact here hs
  ·have hm':(j,b)∈pre:=by simpa [hji] using hm
   obtain ⟨aj,hl,hlook,hor⟩:=M.pend j b p hm' (fun hh=>hs ((hS j hji).2 hh)) hj
   refine ⟨aj,hl,fun t ht=>⟨fun q oq hq hd hah=>?_,(hlook t ht).2⟩,?_⟩
   ·have hqi:q≠i:=fun hh=>by
     subst hh
     have:=(hrow_i (j,b) hm').2
     simp only at this
     rw [hah] at this; cases this
    rw [if_neg hqi]
    exact (hlook t ht).1 q oq hq hd hah
   ·rw [if_neg hji]
    rcases hor with hor | ⟨h1,h2,h3⟩
    ·exact .inl hor
    ·exact .inr ⟨h1,hdn _ h2,hold j aj _ p (fun hh=>hs ((hS j hji).2 hh)) h2 hj h3⟩
theorem Mom.on (hO:Ord ops ms sched):∀ {post pre:List (Nat × Bool)} {dn:Dn} {a:Slots} {val:Nat->Value},Mom P ops ms K sched a₀ S h pre post dn a val →
  ∃ pre' post' dn' a' val',Mom P ops ms K sched a₀ S h pre' post' dn' a' val'/\(∀ j,S j->val' j=val j)/\(post'=[]∨∃ i o rest,post'=(i,true)::rest/\ops[i]?=some o/\wantedB ops o a'=true /\
   StepW P a' o h fun v h₁=>∃ a₁,putAt a' o.dst v=some a₁/\(∀ e,e∈dn'->ahead ms i e.1=false->∀ p,ops[e.1]?=some p->StepQ P e.2.1 p h₁ e.2.2)/\OD P ops ms K rest dn' a₁ h₁):=by
 intro post
 induction post with
 | nil=>intro pre dn a val M; exact ⟨pre,[],dn,a,val,M,fun _ _=>rfl,.inl rfl⟩
 | cons x post ih =>
  intro pre dn a val M
  obtain ⟨i,wr⟩:=x
  have od:=M.od
  simp only [OD] at od
  obtain ⟨o,hi,hor⟩:=od
  have hnS:∀ j,S j->j≠i:=fun j hj hh=>by subst hh; exact M.out j wr (by simp) hj
  rcases hor with ⟨hw,a₁,ep,od⟩ | ⟨hw,hwr,v,a₁,sq,ep,od⟩ | ⟨hw,hwr,sw⟩
  ·obtain ⟨pre',post',dn',a',val',M',hv,hp⟩:=ih (M.step hO hi ep od (fun _ he=>he) (fun _ _=>Iff.rfl) (fun _ _ _ _ _ _ _ hh=>hh) fun _=>.inl ⟨hw,rfl⟩)
   exact ⟨pre',post',dn',a',val',M',fun j hj=>by rw [hv j hj,if_neg (hnS j hj)],hp⟩
  ·obtain ⟨pre',post',dn',a',val',M',hv,hp⟩:=ih (M.step hO hi ep od (fun _ he=>List.mem_cons_of_mem _ he) (fun _ _=>Iff.rfl) (fun _ _ _ _ _ _ _ hh=>hh) fun _=>.inr ⟨hw,by simp,sq⟩)
   exact ⟨pre',post',dn',a',val',M',fun j hj=>by rw [hv j hj,if_neg (hnS j hj)],hp⟩
  ·subst hwr
   exact ⟨pre,(i,true)::post,dn,a,val,M,fun _ _=>rfl,.inr ⟨i,o,post,rfl,hi,hw,sw⟩⟩
theorem Mom.more {S':Nat->Prop} {pre:List (Nat × Bool)} {dn:Dn} {a:Slots} {val:Nat->Value} (M:Mom P ops ms K sched a₀ S h pre post dn a val) (h1:∀ j,S j->S' j) (h2:∀ j b,(j,b)∈post->¬ S' j):Mom P ops ms K sched a₀ S' h pre post dn a val :=
 ⟨M.row,M.od,M.len,M.slot,M.slot0,h2,fun j b o hm hs=>M.pend j b o hm fun hh=>hs (h1 j hh)⟩
end
theorem draw_any2 (hg:noGo P=true) {ro:Option Nat} {ds:List Deferred} {opsA:Array Oper} {ms:List Nat} {sched:List (Nat × Bool)} {a₀:Slots} {K:Slots->AW->Prop} {ρ₀:Env} {h₀:AW} {w₀:World} {Q:Exit->Act->World->Prop}
  (hm:masksB opsA.toList []=some ms) (hO:Ord opsA.toList ms sched) (hback:backB opsA.toList 0=true)
  (hQ:∀ a' h' ρ' act' w',K a' h'->LRel ρ' a' act'.tmps.toList->act'.defers=ds->HRel P ρ' h' w'->Turn ρ₀ h₀ w₀ ρ' h' w'->Q .normal act' w') :
  ∀ (fuel:Nat) (listed:Array Bool) (act:Act) (w:World) (ρ:Env) (h:AW) (pre post:List (Nat × Bool)) (dn:Dn) (a:Slots) (val:Nat->Value),listed.size=opsA.size →
   (∀ i o,lst listed i=true->opsA.toList[i]?=some o->∀ e∈o.after.toList,Region.binds .any e=true->lst listed e.on=true) →
   Mom P opsA.toList ms K sched a₀ (fun j=>lst listed j=true) h pre post dn a val->HRel P ρ h w->Turn ρ₀ h₀ w₀ ρ h w->act.tmps.size=a₀.length->act.defers=ds →
   (∀ j o d,lst listed j=true->opsA.toList[j]?=some o->o.dst=some d->∃ u,act.tmps[d]?=some u/\VRel ρ (val j) u) →
   (∀ t x,(∀ j (o:Oper),lst listed j=true->opsA.toList[j]?=some o->o.dst≠some t)->a₀[t]?=some x->∃ u,act.tmps[t]?=some u/\VRel ρ x u) →
   ((List.range opsA.size).filter fun i=>!listed.getD i true).length<=fuel->wpAnyIn (wideAt ro) 0 P .any opsA Q fuel listed act w:=by
 have hgetD:∀ (listed:Array Bool) (i:Nat),i < listed.size->listed.getD i true=lst listed i:=fun listed i hi=>by
  unfold lst
  rw [Array.getD_eq_getD_getElem?,Array.getD_eq_getD_getElem?,Array.getElem?_eq_getElem hi]; rfl
 -- when all are listed
 have final:∀ (listed:Array Bool) (act:Act) (w:World) (ρ:Env) (h:AW) (pre post:List (Nat × Bool)) (dn:Dn) (a:Slots) (val:Nat->Value),(∀ i,i < opsA.size->lst listed i=true) →
   Mom P opsA.toList ms K sched a₀ (fun j=>lst listed j=true) h pre post dn a val->HRel P ρ h w->Turn ρ₀ h₀ w₀ ρ h w->act.tmps.size=a₀.length->act.defers=ds →
   (∀ j o d,lst listed j=true->opsA.toList[j]?=some o->o.dst=some d->∃ u,act.tmps[d]?=some u/\VRel ρ (val j) u) →
   (∀ t x,(∀ j (o:Oper),lst listed j=true->opsA.toList[j]?=some o->o.dst≠some t)->a₀[t]?=some x->∃ u,act.tmps[t]?=some u/\VRel ρ x u)->Q .normal act w:=by
  intro listed act w ρ h pre post dn a val hall M HR T hsz hd hs1 hs0
  have hpost:post=[]:=by
   cases post with
   | nil=>rfl
   | cons x post =>
    obtain ⟨i,b⟩:=x
    have hod:=M.od
    simp only [OD] at hod
    obtain ⟨o,hi,_⟩:=hod
    have hlt:=(List.getElem?_eq_some_iff.1 hi).1
    exact absurd (hall i (by simpa using hlt)) (M.out i b (by simp))
  subst hpost
  have hk:=M.od
  simp only [OD] at hk
  refine hQ a h ρ act w hk (LRel.of_get (by have:=M.len; simp; omega) fun t x hx=>?_) hd HR T
  rw [Array.getElem?_toList]
  by_cases hex:∃ (j:Nat) (o:Oper),opsA.toList[j]?=some o/\o.dst=some t
  ·obtain ⟨j,o,hj,hdj⟩:=hex
   obtain ⟨b,hb⟩:=hO.all j o hj
   rw [M.row,List.append_nil] at hb
   have:=M.slot j o t ⟨b,hb⟩ hj hdj
   rw [this] at hx; simp at hx; subst hx
   exact hs1 j o t (hall j (by simpa using (List.getElem?_eq_some_iff.1 hj).1)) hj hdj
  ·rw [M.slot0 t fun j o _ hj hdj=>hex ⟨j,o,hj,hdj⟩] at hx
   exact hs0 t x (fun j o _ hj hdj=>hex ⟨j,o,hj,hdj⟩) hx
 intro fuel
 induction fuel with
 | zero =>
  intro listed act w ρ h pre post dn a val hsize hclosed M HR T hsz hd hs1 hs0 hfuel
  have hnil:((List.range opsA.size).filter fun i=>!listed.getD i true)=[]:=List.eq_nil_of_length_eq_zero (by omega)
  have hall:∀ i,i < opsA.size->lst listed i=true:=fun i hi=>by
   have:=List.filter_eq_nil_iff.1 hnil i (by simpa using hi)
   rw [hgetD listed i (by omega)] at this
   simpa using this
  refine ⟨?_,final listed act w ρ h pre post dn a val hall M HR T hsz hd hs1 hs0⟩
  unfold Region.ready
  rw [List.filter_eq_nil_iff]
  intro i hi
  rw [hgetD listed i (by simp at hi; omega),hall i (by simpa using hi)]
  simp
 | succ fuel ih =>
  intro listed act w ρ h pre post dn a val hsize hclosed M HR T hsz hd hs1 hs0 hfuel
  refine ⟨fun hready=>?_,fun i hi=>?_⟩
  ·have hall:∀ i,i < opsA.size->lst listed i=true:=by
    intro i
    induction i using Nat.strongRecOn with
    | _ i ihi =>
     intro hi
     cases hb:lst listed i with
     | true=>rfl
     | false =>
      have hin:i∈Region.ready .any opsA listed:=by
       unfold Region.ready
       rw [List.mem_filter]
       refine ⟨by simpa using hi,?_⟩
       rw [hgetD listed i (by omega),hb]
       have ho:opsA[i]?=some opsA[i]:=Array.getElem?_eq_getElem hi
       simp only [ho,Option.map_some,Option.getD_some,Bool.not_false,Bool.true_and]
       rw [Array.all_eq_true']
       intro e he
       cases hbe:Region.binds .any e with
       | false=>simp
       | true =>
       have hlt:=backB_spec hback i opsA[i] (by rw [Array.getElem?_toList]; exact ho) e (by simpa using he) hbe
       have:=ihi e.on (by omega) (by omega)
       unfold lst at this
       rw [this]; simp
      rw [hready] at hin
      simp at hin
   exact final listed act w ρ h pre post dn a val hall M HR T hsz hd hs1 hs0
  ·obtain ⟨pre',post',dn',a',val',M',hveq,hhead⟩:=M.on hO
   have hs1':∀ j o d,lst listed j=true->opsA.toList[j]?=some o->o.dst=some d->∃ u,act.tmps[d]?=some u/\VRel ρ (val' j) u:=fun j o d hj ho hd'=>by
    rw [hveq j hj]; exact hs1 j o d hj ho hd'
   clear M hs1 hveq
   -- the operation i stands next
   unfold Region.ready at hi
   rw [List.mem_filter] at hi
   obtain ⟨hin,hi⟩:=hi
   have hin:i < opsA.size:=by simpa using hin
   have ho:opsA[i]?=some opsA[i]:=Array.getElem?_eq_getElem hin
   generalize opsA[i]=o at ho
   rw [hgetD listed i (by omega),ho] at hi
   simp only [Option.map_some,Option.getD_some,Bool.and_eq_true,Bool.not_eq_true'] at hi
   obtain ⟨hnot,hpre⟩:=hi
   rw [Array.all_eq_true'] at hpre
   have hoL:opsA.toList[i]?=some o:=by rw [Array.getElem?_toList]; exact ho
   have hpreds:∀ e∈o.after.toList,Region.binds .any e=true->lst listed e.on=true:=fun e he hb=>by
    have:=hpre e (by simpa using he)
    rw [hb] at this
    simpa [lst] using this
   have hclose:=closed_ahead hm hback (S:=fun j=>lst listed j=true) hclosed
   have hbefore:∀ j,ahead ms i j=true->lst listed j=true:=hclose i o hoL hpreds
   have hafter:∀ j q,opsA.toList[j]?=some q->lst listed j=true->ahead ms j i=false:=fun j q hq hj=>by
    cases hb:ahead ms j i with
    | false=>rfl
    | true =>
     have:=hclose j q hq (hclosed j q hj hq) i hb
     rw [hnot] at this; cases this
   -- what stands in the slots
   let A:Slots:=(List.range a₀.length).map fun t=>open Classical in if hx:∃ j o,lst listed j=true/\opsA.toList[j]?=some o/\o.dst=some t then val' (Classical.choose hx) else (a₀[t]?).getD undef
   have hAl:A.length=a₀.length:=by simp [A]
   have hA:∀ t,t < a₀.length->A[t]?=some (open Classical in if hx:∃ j o,lst listed j=true/\opsA.toList[j]?=some o/\o.dst=some t then val' (Classical.choose hx) else (a₀[t]?).getD undef):=fun t ht=>by
    simp only [A,List.getElem?_map]
    rw [List.getElem?_range ht]; rfl
   have hA1:∀ j o t,lst listed j=true->opsA.toList[j]?=some o->o.dst=some t->t < a₀.length->A[t]?=some (val' j):=fun j o t hj hjo hjd ht=>by
    rw [hA t ht]
    have hx:∃ j o,lst listed j=true/\opsA.toList[j]?=some o/\o.dst=some t:=⟨j,o,hj,hjo,hjd⟩
    rw [dif_pos hx]
    obtain ⟨p,h1,h2,h3⟩:=Classical.choose_spec hx
    rw [hO.once _ j p o t h2 hjo h3 hjd]
   have hA0:∀ t,(∀ j (o:Oper),lst listed j=true->opsA.toList[j]?=some o->o.dst≠some t)->A[t]?=a₀[t]?:=fun t hno=>by
    by_cases ht:t < a₀.length
    ·rw [hA t ht,dif_neg (fun ⟨j,o,h1,h2,h3⟩=>hno j o h1 h2 h3),List.getElem?_eq_getElem ht]; rfl
    ·rw [List.getElem?_eq_none (by rw [hAl]; exact Nat.le_of_not_lt ht),List.getElem?_eq_none (Nat.le_of_not_lt ht)]
   have hrelA:LRel ρ A act.tmps.toList:=LRel.of_get (by simp; omega) fun t x hx=>by
    rw [Array.getElem?_toList]
    have ht:t < a₀.length:=by have:=(List.getElem?_eq_some_iff.1 hx).1; omega
    by_cases hex:∃ j o,lst listed j=true/\opsA.toList[j]?=some o/\o.dst=some t
    ·obtain ⟨j,p,h1,h2,h3⟩:=hex
     rw [hA1 j p t h1 h2 h3 ht] at hx
     simp at hx; subst hx
     exact hs1' j p t h1 h2 h3
    ·have hno:∀ j (o:Oper),lst listed j=true->opsA.toList[j]?=some o->o.dst≠some t:=fun j o h1 h2 h3=>hex ⟨j,o,h1,h2,h3⟩
     rw [hA0 t hno] at hx
     exact hs0 t x hno hx
   -- no other one writes what it looks at
   have hlone:∀ t,t∈looksB opsA.toList o->(∀ q oq,opsA.toList[q]?=some oq->oq.dst=some t->ahead ms i q=false)->∀ j (p:Oper),lst listed j=true->opsA.toList[j]?=some p->p.dst≠some t:=fun t ht hno j p hj hjp hjd=>by
    have hne:j≠i:=fun hh=>by subst hh; rw [hnot] at hj; cases hj
    obtain ⟨s1,s2⟩:=hO.sorted i o j p t hoL hjp hjd ht hne
    rcases Nat.lt_or_gt_of_ne hne with hlt | hgt
    ·rw [hno j p hjp hjd] at s1; exact absurd (s1 hlt) (by simp)
    ·rw [hafter j p hjp hj] at s2; exact absurd (s2 hgt) (by simp)
   -- what holds behind it
   have next:∀ (u v:Value) (w':World) (ρ':Env) (h':AW) (pre' post':List (Nat × Bool)) (dn':Dn) (a':Slots) (val:Nat->Value),ρ.le ρ'->VRel ρ' v u->HRel P ρ' h' w'->Turn ρ h w ρ' h' w'->val i=v->(∀ j,lst listed j=true->val j=val' j) →
     Mom P opsA.toList ms K sched a₀ (fun j=>lst (listed.setIfInBounds i true) j=true) h' pre' post' dn' a' val->wpAnyIn (wideAt ro) 0 P .any opsA Q fuel (listed.setIfInBounds i true) (act.put o.dst u) w':=by
    intro u v w' ρ' h' pre' post' dn' a' val le hv HR' T' hvi hvj M
    have hput:∀ t,(act.put o.dst u).tmps[t]?=if o.dst=some t then (if t < act.tmps.size then some u else none) else act.tmps[t]?:=fun t=>by
     cases hd':o.dst with
     | none=>simp [Act.put]
     | some d =>
      simp only [Act.put,Array.getElem?_setIfInBounds]
      by_cases hdt:d=t
      ·subst hdt; simp
      ·rw [if_neg hdt,if_neg (fun hh=>hdt (by simpa using hh))]
    refine ih _ _ w' ρ' h' pre' post' dn' a' val (by simpa using hsize) ?_ M HR' (T.trans T') ?_ (by rw [put_defers]; exact hd) ?_ ?_ ?_
    ·intro j q hj hq e he hb
     rw [lst_set (by omega)] at hj ⊢
     by_cases hji:j=i
     ·subst hji
      rw [hoL] at hq; simp at hq; subst hq
      rw [hpreds e he hb]; simp
     ·rw [if_neg hji] at hj
      rw [hclosed j q hj hq e he hb]; simp
    ·rw [← hsz]
     cases o.dst <;> simp [Act.put]
    ·intro j p d hj hp hpd
     rw [lst_set (by omega)] at hj
     by_cases hji:j=i
     ·subst hji
      rw [hoL] at hp; simp at hp; subst hp
      have hlt:d < act.tmps.size:=by
       obtain ⟨b,hb⟩:=hO.all j o hoL
       have hpp:∃ b,(j,b)∈pre':=by
        rw [M.row] at hb
        rcases List.mem_append.1 hb with hb | hb
        ·exact ⟨b,hb⟩
        ·exact absurd (by rw [lst_set (by omega)]; simp) (M.out j b hb)
       have h1:=(List.getElem?_eq_some_iff.1 (M.slot j o d hpp hoL hpd)).1
       rw [M.len,← hsz] at h1
       exact h1
      exact ⟨u,by rw [hput,if_pos hpd,if_pos hlt],by rw [hvi]; exact hv⟩
     ·rw [if_neg hji] at hj
      obtain ⟨x,hx,hr⟩:=hs1' j p d hj hp hpd
      refine ⟨x,?_,by rw [hvj j hj]; exact hr.mono le⟩
      rw [hput,if_neg (fun hh=>hji (hO.once j i p o d hp hoL hpd hh))]
      exact hx
    ·intro t x hno hx
     have hdt:o.dst≠some t:=hno i o (by rw [lst_set (by omega)]; simp) hoL
     obtain ⟨y,hy,hr⟩:=hs0 t x (fun j p hj hp=>hno j p (by rw [lst_set (by omega),hj]; simp) hp) hx
     exact ⟨y,by rw [hput,if_neg hdt]; exact hy,hr.mono le⟩
    ·have:=cnt_lt (l:=List.range opsA.size) (p:=fun j=>!listed.getD j true) (q:=fun j=>!(listed.setIfInBounds i true).getD j true) (fun x hx=>by
      rw [Array.getD_eq_getD_getElem?,Array.getElem?_setIfInBounds] at hx
      rw [Array.getD_eq_getD_getElem?]
      by_cases hxi:i=x
      ·subst hxi; rw [if_pos rfl,if_pos (by omega)] at hx; simp at hx
      ·rwa [if_neg hxi] at hx) ⟨i,by simpa using hin,by rw [hgetD listed i (by omega),hnot]; rfl,by
       rw [Array.getD_eq_getD_getElem?,Array.getElem?_setIfInBounds,if_pos rfl,if_pos (by omega)]; rfl⟩
     omega
   have hmono:∀ j,lst listed j=true->lst (listed.setIfInBounds i true) j=true:=fun j hj=>by rw [lst_set (by omega),hj]; simp
   obtain ⟨b,hb⟩:=hO.all i o hoL
   have hrow:=M'.row
   rw [hrow] at hb
   unfold wpOpIn
   rw [ho]
   simp only
   rcases List.mem_append.1 hb with hb | hb
   ·-- it has been put off till now
    obtain ⟨aj,hl,hlook,hor⟩:=M'.pend i b o hb (by rw [hnot]; simp) hoL
    have hsame:∀ t,t∈looksB opsA.toList o->A[t]?=aj[t]?:=fun t ht=>by
     by_cases hex:∃ q oq,opsA.toList[q]?=some oq/\oq.dst=some t/\ahead ms i q=true
     ·obtain ⟨q,oq,h1,h2,h3⟩:=hex
      have e1:=(hlook t ht).1 q oq h1 h2 h3
      have hlt:t < a₀.length:=by have:=(List.getElem?_eq_some_iff.1 e1).1; omega
      rw [e1]
      exact hA1 q oq t (hbefore q h3) h1 h2 hlt
     ·have hno:∀ q oq,opsA.toList[q]?=some oq->oq.dst=some t->ahead ms i q=false:=fun q oq h1 h2=>by
       cases hb':ahead ms i q with
       | false=>rfl
       | true=>exact absurd ⟨q,oq,h1,h2,hb'⟩ hex
      rw [(hlook t ht).2 hno]
      exact hA0 t (hlone t ht hno)
    have M2:Mom P opsA.toList ms K sched a₀ (fun j=>lst (listed.setIfInBounds i true) j=true) h pre' post' dn' a' val':=M'.more hmono fun j c hjp hj=>by
     rw [lst_set (by omega)] at hj
     by_cases hji:j=i
     ·subst hji
      have hnd:=hO.nd
      rw [hrow,List.map_append,List.nodup_append] at hnd
      exact hnd.2.2 j (List.mem_map.2 ⟨_,hb,rfl⟩) j (List.mem_map.2 ⟨_,hjp,rfl⟩) rfl
     ·rw [if_neg hji] at hj; exact M'.out j c hjp hj
    have hopA:opB P A o h=opB P aj o h:=opB_congr (aev_congr hsame)
    rcases hor with ⟨hw,hv⟩ | ⟨hw,_,hq⟩
    ·obtain ⟨hw,hsure⟩:=skip_iff.1 hw
     rw [← wantedB_eq hrelA (by rw [sureB_congr hsame]; exact hsure),wantedB_congr hsame,hw,if_neg (by simp)]
     exact ⟨fun _ _=>trivial,next undef undef w ρ h pre' post' dn' a' val' (Env.le_refl _) undef_rel HR (Turn.refl _ _ _) hv (fun _ _=>rfl) M2⟩
    ·rw [← wantedB_eq hrelA (by rw [sureB_congr hsame]; exact sure_of_wanted hw),wantedB_congr hsame,hw,if_pos rfl]
     rcases hq with hop | ⟨f,args,hop,hcq⟩ | ⟨hvo,r₀,off₀,hvv⟩
     ·obtain ⟨n,u,w',ρ',hrun,hn,hv,HR',T'⟩:=opB_sound hrelA HR (by rw [hopA]; exact hop)
      have:=next u _ w' ρ' h pre' post' dn' a' val' T'.le hv HR' T' rfl (fun _ _=>rfl) M2
      refine ⟨fun _ _=>trivial,?_⟩
      rw [Oper.semAt_eq _ _ _ (opB_noDefer hop),hrun]
      rcases hn with rfl | ⟨rfl,rfl⟩ <;> exact this
     ·obtain ⟨us,hus,hrun⟩:=opB_sound hrelA HR (e:=by rw [hopA]; exact hop)
      obtain ⟨⟨fn,c,hf,hbd⟩,hcalls⟩:=hcq
      refine ⟨fun _ _=>trivial,?_⟩
      rw [Oper.semAt_eq _ _ _ (opB_noDefer hop),hrun,run_callFunc hg hf hbd]
      refine ⟨fun hh=>(by cases hh),callsIn_at.2 ((hcalls ρ us w hus HR).mono ?_)⟩
      rintro en w₁ ⟨v,h₁,u,ρ₁,rfl,⟨rfl,rfl⟩,hv,H₁,T₁⟩
      exact next u _ w₁ ρ₁ h₁ pre' post' dn' a' val' T₁.le hv H₁ T₁ rfl (fun _ _=>rfl) M2
     ·obtain ⟨t₀,el,n₀,zs,hoo,hu,hn,_,_⟩:=voidB_op hvo
      obtain ⟨u,w',ρ',hrun,hv,HR',T'⟩:=void_done (r:=r₀) (off:=off₀) (zs:=zs) HR hu hn
      rw [← hvv] at hv
      have:=next u _ w' ρ' h pre' post' dn' a' val' T'.le hv HR' T' rfl (fun _ _=>rfl) M2
      refine ⟨fun _ _=>trivial,?_⟩
      rw [Oper.semAt_eq _ _ _ (fun c hc=>by rw [hoo] at hc; cases hc)]
      simp only [execOp,hoo,List.map_toArray,List.map_nil,Sem.run_bind,hrun,Result.andThen_ok,Sem.run_pure]
      exact this
   ·-- it turns the rows
    rcases hhead with rfl | ⟨i',o',rest,rfl,hi',hw,sw⟩
    ·simp at hb
    have hii:i=i':=by
     rcases List.mem_cons.1 hb with hb | hb
     ·simp at hb; exact hb.1
     ·exfalso
      obtain ⟨s1,s2,rfl⟩:=List.append_of_mem hb
      have:=(hO.row (pre'++(i',true)::s1) (i,b) s2 (by rw [hrow]; simp) (i',true) (by simp)).1 rfl
      exact M'.out i' true (by simp) (hbefore i' this)
    subst hii
    rw [hoL] at hi'; simp at hi'; subst hi'
    have hrow_i:=hO.row pre' (i,true) rest hrow
    have hsame:∀ t,t∈looksB opsA.toList o->A[t]?=a'[t]?:=fun t ht=>by
     by_cases hex:∃ q oq,opsA.toList[q]?=some oq/\oq.dst=some t/\ahead ms i q=true
     ·obtain ⟨q,oq,h1,h2,h3⟩:=hex
      obtain ⟨bq,hbq⟩:=hO.all q oq h1
      rw [hrow] at hbq
      have hqp:(q,bq)∈pre':=by
       rcases List.mem_append.1 hbq with hbq | hbq
       ·exact hbq
       ·exact absurd (hbefore q h3) (M'.out q bq hbq)
      have e1:=M'.slot q oq t ⟨bq,hqp⟩ h1 h2
      have hlt:t < a₀.length:=by have:=(List.getElem?_eq_some_iff.1 e1).1; have:=M'.len; omega
      rw [e1]
      exact hA1 q oq t (hbefore q h3) h1 h2 hlt
     ·have hno:∀ q oq,opsA.toList[q]?=some oq->oq.dst=some t->ahead ms i q=false:=fun q oq h1 h2=>by
       cases hb':ahead ms i q with
       | false=>rfl
       | true=>exact absurd ⟨q,oq,h1,h2,hb'⟩ hex
      rw [hA0 t (hlone t ht hno)]
      refine (M'.slot0 t fun j p ⟨bj,hbj⟩ hjp hjd=>?_).symm
      have hne:j≠i:=fun hh=>by
       subst hh
       have hnd:=hO.nd
       rw [hrow,List.map_append,List.nodup_append] at hnd
       exact hnd.2.2 j (List.mem_map.2 ⟨_,hbj,rfl⟩) j (by simp) rfl
      obtain ⟨s1,s2⟩:=hO.sorted i o j p t hoL hjp hjd ht hne
      rcases Nat.lt_or_gt_of_ne hne with hlt | hgt
      ·rw [hno j p hjp hjd] at s1; exact absurd (s1 hlt) (by simp)
      ·have:=(hrow_i (j,bj) hbj).2
       simp only at this
       rw [s2 hgt] at this; cases this
    have hopA:opB P A o h=opB P a' o h:=opB_congr (aev_congr hsame)
    rw [← wantedB_eq hrelA (by rw [sureB_congr hsame]; exact sure_of_wanted hw),wantedB_congr hsame,hw,if_pos rfl]
    have go:∀ v h₁ u w' ρ',(∃ a₁,putAt a' o.dst v=some a₁/\(∀ e,e∈dn'->ahead ms i e.1=false->∀ p,opsA.toList[e.1]?=some p->StepQ P e.2.1 p h₁ e.2.2)/\OD P opsA.toList ms K rest dn' a₁ h₁) →
      VRel ρ' v u->HRel P ρ' h₁ w'->Turn ρ h w ρ' h₁ w'->wpAnyIn (wideAt ro) 0 P .any opsA Q fuel (listed.setIfInBounds i true) (act.put o.dst u) w':=by
     rintro v h₁ u w' ρ' ⟨a₁,ep,hobl,hod⟩ hv HR' T'
     have M2:=M'.step (S':=fun j=>lst (listed.setIfInBounds i true) j=true) hO hoL ep hod (fun _ he=>he) (fun j hj=>by rw [lst_set (by omega),if_neg hj]) (fun j aj u p hs hm hp _=>hobl _ hm (by
      cases hb':ahead ms i j with
      | false=>rfl
      | true=>exact absurd (hbefore j hb') hs) p hp) (fun hs=>absurd (by rw [lst_set (by omega)]; simp) hs)
     refine next u v w' ρ' h₁ _ _ _ _ _ T'.le hv HR' T' ?_ ?_ M2
     ·simp
     ·intro j hj
      have hne:j≠i:=fun hh=>by subst hh; rw [hnot] at hj; cases hj
      simp [hne]
    rcases sw with ⟨v,h₁,hop,hR⟩ | ⟨f,args,hop,hcq⟩
    ·obtain ⟨n,u,w',ρ',hrun,hn,hv,HR',T'⟩:=opB_sound hrelA HR (by rw [hopA]; exact hop)
     have:=go v h₁ u w' ρ' hR hv HR' T'
     refine ⟨fun _ _=>trivial,?_⟩
     rw [Oper.semAt_eq _ _ _ (opB_noDefer hop),hrun]
     rcases hn with rfl | ⟨rfl,rfl⟩ <;> exact this
    ·obtain ⟨us,hus,hrun⟩:=opB_sound hrelA HR (e:=by rw [hopA]; exact hop)
     obtain ⟨⟨fn,c,hf,hbd⟩,hcalls⟩:=hcq
     refine ⟨fun _ _=>trivial,?_⟩
     rw [Oper.semAt_eq _ _ _ (opB_noDefer hop),hrun,run_callFunc hg hf hbd]
     refine ⟨fun hh=>(by cases hh),callsIn_at.2 ((hcalls ρ us w hus HR).mono ?_)⟩
     rintro en w₁ ⟨v,h₁,u,ρ₁,rfl,hR,hv,H₁,T₁⟩
     exact go v h₁ u w₁ ρ₁ hR hv H₁ T₁
theorem LQ.drawn2 {rd:Option Nat} (hg:noGo P=true) (hmix:P.follows .mixedOrders=true) {id:Nat} {opsA:Array Oper} {ops:List Oper} {ms:List Nat} {sched:List (Nat × Bool)} {a:Slots} {h:AW} {R:AExit->Slots->AW->Prop}
  (hl:opsA.toList=ops) (hm:masksB ops []=some ms) (hok:drawOk2 ops ms sched=true) (k:OD P ops ms (R .normal) sched [] a h):LQ rd P (.region id opsA true) a h R:=by
 subst hl
 intro n₀ ro ρ act w Q _ hr hd H hQ
 obtain ⟨hO,hback⟩:=ord_of hm hok
 refine wpIn_region_any hmix ?_
 have hempty:∀ j,lst (Array.replicate opsA.size false) j=false:=fun j=>by
  unfold lst
  rw [Array.getD_eq_getD_getElem?,Array.getElem?_replicate]
  split <;> rfl
 have hw:({ w with drawn:=w.drawn+1 }:World).heap=w.heap:=rfl
 refine draw_any2 (ρ₀:=ρ) (h₀:=h) (w₀:=w) hg hm hO hback (ds:=act.defers) (fun a' h' ρ' act' w' k' b c d t=>hQ .normal a' h' ρ' act' w' k' b (by rw [c]; exact hd.turn t) d t) opsA.size _ act _ ρ h [] sched [] a (fun _=>undef) (by simp) (fun i o hi=>by rw [hempty] at hi; cases hi)
  ⟨by simp,k,rfl,fun j o d ⟨b,hb⟩=>(by simp at hb),fun t _=>rfl,fun j b _=>by rw [hempty]; simp,fun j b o hb=>by simp at hb⟩ (H.draw hw) (Turn.draw hw rfl rfl rfl (Turn.refl _ _ _)) ?_ rfl (fun j o d hj=>by rw [hempty] at hj; cases hj) ?_ ?_
 ·have:=hr.length; simpa using this.symm
 ·intro t x _ hx
  obtain ⟨u,hu',hv⟩:=hr.get hx
  rw [Array.getElem?_toList] at hu'
  exact ⟨u,hu',hv⟩
 ·exact Nat.le_trans (List.length_filter_le _ _) (by simp)
end
end Go.Am
namespace Go.Am
def rdRow:ARow->Option (List Value)
 | .cells _ cs=>some cs
 | .ro cs=>some cs
 | _=>none
def setL:RL->Nat->Nat × ARow->Option RL
 | [],_,_=>none
 | _::xs,0,x=>some (x::xs)
 | y::xs,n+1,x=>match setL xs n x with
  | some ys=>some (y::ys)
  | none=>none
theorem setL_eq:∀ {L L':RL} {i:Nat} {x:Nat × ARow},setL L i x=some L'->L'=L.set i x
 | [],_,_,_,h=>by simp [setL] at h
 | y::xs,L',0,x,h=>by simp [setL] at h; subst h; rfl
 | y::xs,L',n+1,x,h=>by
  simp only [setL] at h
  split at h
  ·rename_i ys e
   simp at h; subst h
   rw [setL_eq e]; rfl
  ·cases h
def dropL:RL->Nat->Option RL
 | [],_=>none
 | _::xs,0=>some xs
 | y::xs,n+1=>match dropL xs n with
  | some ys=>some (y::ys)
  | none=>none
theorem dropL_eq:∀ {L L':RL} {i:Nat},dropL L i=some L'->L'=L.eraseIdx i
 | [],_,_,h=>by simp [dropL] at h
 | y::xs,L',0,h=>by simp [dropL] at h; subst h; rfl
 | y::xs,L',n+1,h=>by
  simp only [dropL] at h
  split at h
  ·rename_i ys e
   simp at h; subst h
   rw [dropL_eq e]; rfl
  ·cases h
def pullL:RL->Nat->Option ((Nat × ARow) × RL)
 | [],_=>none
 | x::xs,0=>some (x,xs)
 | y::xs,n+1=>match pullL xs n with
  | some (x,ys)=>some (x,y::ys)
  | none=>none
theorem pullL_perm:∀ {L M:RL} {i:Nat} {x:Nat × ARow},pullL L i=some (x,M)->L.Perm (x::M)
 | [],_,_,_,h=>by simp [pullL] at h
 | y::xs,M,0,x,h=>by simp [pullL] at h; obtain ⟨rfl,rfl⟩:=h; exact .refl _
 | y::xs,M,n+1,x,h=>by
  simp only [pullL] at h
  split at h
  ·rename_i z ys e
   simp at h
   obtain ⟨rfl,rfl⟩:=h
   exact ((pullL_perm e).cons y).trans (.swap ..)
  ·cases h
def pullsL:RL->List Nat->Option RL
 | L,[]=>some L
 | L,i::is=>match pullL L i with
  | some (x,M)=>pullsL (x::M) is
  | none=>none
theorem pullsL_perm:∀ {is:List Nat} {L M:RL},pullsL L is=some M->L.Perm M
 | [],L,M,h=>by simp [pullsL] at h; subst h; exact .refl _
 | i::is,L,M,h=>by
  simp only [pullsL] at h
  split at h
  ·rename_i x N e
   exact (pullL_perm e).trans (pullsL_perm h)
  ·cases h
theorem Sub.pulls {L M:RL} (is:List Nat) (h:pullsL L is=some M):Sub M L:=⟨[],by simpa using pullsL_perm h⟩
theorem erase_perm:∀ {L:RL} {i:Nat},i < L.length->∃ x,L.Perm (L.eraseIdx i++[x])
 | [],i,h=>by simp at h
 | x::xs,0,_=>⟨x,by simpa using List.perm_append_comm (l₁:=[x]) (l₂:=xs)⟩
 | x::xs,i+1,h=>by
  obtain ⟨y,hy⟩:=erase_perm (L:=xs) (i:=i) (by simpa using h)
  exact ⟨y,by simpa using hy.cons x⟩
theorem Sub.drop {L M:RL} (i:Nat) (h:dropL L i=some M):Sub M L:=by
 have:=dropL_eq h
 subst this
 by_cases hi:i < L.length
 ·obtain ⟨x,hx⟩:=erase_perm hi; exact ⟨[x],hx⟩
 ·exact ⟨[],by simp [List.eraseIdx_of_length_le (Nat.le_of_not_lt hi)]⟩
section
variable {P:Program} {a a₁:Slots} {o:Oper} {L L₁:RL} {h:AW}
theorem Has.read {i r:Nat} {row:ARow} {cs:List Value} (H:Has h L) (hL:L[i]?=some (r,row)) (hc:rdRow row=some cs):readRow h r=some cs:=by
 have:=H.at hL
 unfold readRow
 cases row <;> simp only [rdRow,Option.some.injEq,reduceCtorEq] at hc <;> subst hc <;> rw [this]
theorem Has.row {i r:Nat} {e:TypeId} {cs:List Value} (H:Has h L) (hL:L[i]?=some (r,.cells e cs)):getRow h r=some (e,cs):=by
 unfold getRow; rw [H.at hL]
theorem e_load (i:Nat) {t:TypeId} {x:Operand} {r off:Nat} {row:ARow} {cs:List Value} {v:Value} (ho:o.op=.load t x) (hx:aev a x=some (.pointer (some ⟨r,off,none⟩))) (hL:L[i]?=some (r,row)) (hc:rdRow row=some cs) (hv:partB P t cs off=some v) :
  ∀ h,Has h L->opB P a o h=some (.val v h):=by
 intro h H
 simp only [opB,ho,hx,loadB,H.read hL hc,hv,ret]
theorem e_index {t e:TypeId} {x i:Operand} {r off len cap sz j:Nat} {k:IntKind} (ho:o.op=.indexAddr t x i) (hx:aev a x=some (.slice (some ⟨r,off,none⟩) len cap)) (hi:aev a i=some (.int k (j:Int))) (ht:P.underlying t=some (.slice e)) (hs:sizeB P e=some sz) (hj:j < len) :
  ∀ h,opB P a o h=some (.val (.pointer (some ⟨r,off+j * sz,none⟩)) h):=by
 intro h
 have hb:inB (j:Int) len=true:=inB_iff.2 ⟨by omega,by omega⟩
 simp only [opB,ho,hx,hi,indexAddrB,ht,hb,hs,ret,Int.toNat_natCast]
theorem e_slice (i:Nat) {t e:TypeId} {x:Operand} {lo hi:Option Operand} {lo' hi':Option Value} {r off len sz l u:Nat} {cs:List Value} (ho:o.op=.slice t x lo hi none) (hx:aev a x=some (.slice (some ⟨r,off,none⟩) len openCap))
  (hlo:optEv a lo=some lo') (hhi:optEv a hi=some hi') (bl:boundB lo' 0=some l) (bu:boundB hi' len=some u) (ht:P.underlying t=some (.slice e)) (hs:sizeB P e=some sz) (hu:u<=len) (hl:l<=u) (hL:L[i]?=some (r,.cells e cs)) :
  ∀ h,Has h L->opB P a o h=some (.val (.slice (some ⟨r,off+l * sz,none⟩) (u - l) openCap) h):=by
 intro h H
 have h1:Nat.ble u (farB len openCap)=true:=Nat.ble_eq_true_of_le (by unfold farB; rw [beq_true rfl]; exact hu)
 have h2:Nat.ble l u=true:=Nat.ble_eq_true_of_le hl
 have h3:rowOk h e (some ⟨r,off,none⟩) openCap=true:=by
  unfold rowOk; rw [beq_true rfl]; simp only [H.row hL,beq_true rfl]
 have hc:Nat.beq openCap openCap=true:=beq_true rfl
 have hm:optEv a none=some none:=rfl
 simp only [opB,ho,hx,hlo,hhi,hm,sliceB,ht,bu,bl,hs,h1,h2,h3,Bool.true_and,moved,hc,ret]
theorem bound_nat {k:IntKind} {n d:Nat}:boundB (some (.int k (n:Int))) d=some n:=by
 have:ileB 0 (n:Int)=true:=ileB_iff.2 (by omega)
 simp only [boundB,this,Int.toNat_natCast]
def byteCells (bs:List UInt8):List Value:=bs.map fun b=>.int .u8 b.toNat
theorem byteCells_len (bs:List UInt8):(byteCells bs).length=bs.length:=by simp [byteCells]
theorem byteCells_append (x y:List UInt8):byteCells (x++y)=byteCells x++byteCells y:=by simp [byteCells]
theorem bytesOfB_cells:∀ (bs:List UInt8),bytesOfB (byteCells bs)=some bs
 | []=>rfl
 | b::bs=>by
  have ih:=bytesOfB_cells bs
  simp only [byteCells,List.map_cons,bytesOfB] at ih ⊢
  rw [ih]; simp
theorem cellsOfB_bytes:∀ (bs:List UInt8),cellsOfB bs=some (byteCells bs)
 | []=>rfl
 | b::bs=>by
  have ih:=cellsOfB_bytes bs
  simp only [byteCells,List.map_cons,cellsOfB] at ih ⊢
  rw [ih]
theorem takeB_of:∀ {xs:List Value} {n:Nat},n<=xs.length->takeB xs n=some (xs.take n)
 | xs,0,_=>by cases xs <;> rfl
 | [],n+1,h=>by simp at h
 | x::xs,n+1,h=>by simp only [takeB,takeB_of (xs:=xs) (n:=n) (by simpa using h)]; rfl
theorem cut_of:∀ {xs:List Value} {off n:Nat},off+n<=xs.length->cut xs off n=some ((xs.drop off).take n)
 | xs,0,n,h=>by
  have:cut xs 0 n=takeB xs n:=by cases xs <;> rfl
  rw [this,takeB_of (by omega)]; rfl
 | [],off+1,n,h=>by simp at h
 | x::xs,off+1,n,h=>by simp only [cut]; rw [cut_of (by simp at h; omega)]; rfl
theorem cut_all {xs:List Value} {n:Nat} (h:xs.length=n):cut xs 0 n=some xs:=by
 rw [cut_of (by omega)]; simp [← h]
theorem cut_bytes {bs:List UInt8} {off n:Nat} (h:off+n<=bs.length):cut (byteCells bs) off n=some (byteCells ((bs.drop off).take n)):=by
 rw [cut_of (by simpa [byteCells] using h)]
 simp [byteCells,List.map_take,List.map_drop]
theorem lay_of {xs vs:List Value}:∀ {off:Nat},off+vs.length<=xs.length->lay xs off vs=some (xs.take off++(vs++xs.drop (off+vs.length))):=by
 have hover:∀ (vs xs:List Value),vs.length<=xs.length->over xs vs=some (vs++xs.drop vs.length):=by
  intro vs
  induction vs with
  | nil=>intro xs _; cases xs <;> rfl
  | cons v vs ih =>
   intro xs h
   cases xs with
   | nil=>simp at h
   | cons x xs=>simp only [over,ih xs (by simpa using h)]; simp
 intro off
 induction xs generalizing off with
 | nil =>
  intro h
  simp at h
  obtain ⟨rfl,hv⟩:=h
  subst hv; rfl
 | cons x xs ih =>
  intro h
  cases off with
  | zero =>
   simp only [lay]
   rw [hover vs (x::xs) (by simpa using h)]; simp
  | succ off =>
   simp only [lay]
   rw [ih (by simp at h; omega)]
   simp [Nat.add_right_comm]
theorem lay_one {xs:List Value} {off:Nat} {v:Value} (h:off < xs.length):lay xs off [v]=some (xs.set off v):=by
 rw [lay_of (by simp; omega)]
 congr 1
 apply List.ext_getElem?
 intro j
 rw [List.getElem?_set]
 have htl:(xs.take off).length=off:=by simp; omega
 by_cases h1:j < off
 ·rw [List.getElem?_append_left (by omega),List.getElem?_take,if_pos h1,if_neg (by omega)]
 ·by_cases h2:off=j
  ·subst h2
   rw [List.getElem?_append_right (by omega),htl,if_pos rfl,if_pos h]; simp
  ·rw [List.getElem?_append_right (by omega),htl,if_neg h2]
   have:j - off=(j - off - 1)+1:=by omega
   rw [this]
   simp
   congr 1; omega
theorem e_text (i:Nat) {src dst e:TypeId} {x:Operand} {r off len cap:Nat} {row:ARow} {cs vs:List Value} {bs:List UInt8} (ho:o.op=.convert src dst x) (hx:aev a x=some (.slice (some ⟨r,off,none⟩) len cap)) (hs:P.underlying src=some (.slice e)) (hd:P.underlying dst=some .string) (hu:isU8 P e=true)
  (hL:L[i]?=some (r,row)) (hc:rdRow row=some cs) (hcut:cut cs off len=some vs) (hb:bytesOfB vs=some bs):∀ h,Has h L->opB P a o h=some (.val (.string ⟨⟨bs⟩⟩) h):=by
 intro h H
 simp only [opB,ho,hx,convB,hs,hd,hu]
 cases hl:Nat.beq len 0 with
 | true =>
  have:=of_beq hl
  subst this
  have hvs:vs=[]:=by have:=(cut_eq hcut).2.2.1; exact List.eq_nil_of_length_eq_zero this
  subst hvs
  simp [bytesOfB] at hb; subst hb; rfl
 | false=>simp only [H.read hL hc,hcut,hb,ret2]
theorem e_text0 {src dst e:TypeId} {x:Operand} (ho:o.op=.convert src dst x) (hx:aev a x=some (.slice none 0 0)) (hs:P.underlying src=some (.slice e)) (hd:P.underlying dst=some .string) (hu:isU8 P e=true):∀ h,opB P a o h=some (.val (.string ⟨⟨[]⟩⟩) h):=by
 intro h
 simp only [opB,ho,hx,convB,hs,hd,hu,ret2]
theorem e_store (i:Nat) {t:TypeId} {x y:Operand} {r off n:Nat} {e:TypeId} {cs cs':List Value} {v:Value} (ho:o.op=.store t x y) (hx:aev a x=some (.pointer (some ⟨r,off,none⟩))) (hy:aev a y=some v) (hL:L[i]?=some (r,.cells e cs)) (hn:sizeB P t=some n)
  (hone:(Nat.beq v.cells.toList.length n && allOne v.cells.toList)=true) (hlay:lay cs off v.cells.toList=some cs') (hset:setL L i (r,.cells e cs')=some L₁):∀ h,Has h L->∃ h₁,opB P a o h=some (.val undef h₁)/\Has h₁ L₁:=by
 intro h H
 obtain ⟨h₁,e₁⟩:=h.put_some r (some (.cells e cs'))
 have:=setL_eq hset
 subst this
 exact ⟨h₁,by simp only [opB,ho,hx,hy,storeB,H.row hL,hn,hone,hlay,e₁],H.put hL e₁⟩
theorem e_new {el:TypeId} {cs:List Value} {mk:Nat->Value} (e:∀ h,opB P a o h=retRow (newCells P h el cs) mk) (hs:(sizeB P el).isSome=true):∀ h,Has h L->∃ r h₁,opB P a o h=some (.val (mk r) h₁)/\Has h₁ ((r,.cells el cs)::L):=by
 intro h H
 obtain ⟨h₁,e₁⟩:=h.new_some (.cells el cs)
 refine ⟨h.next,h₁,?_,H.new e₁⟩
 rw [e]
 unfold newCells
 cases hsz:sizeB P el with
 | none=>rw [hsz] at hs; cases hs
 | some n=>simp only [e₁,retRow]
def repL (zs:List Value) (n:Nat):List Value:=(List.replicate n zs).flatten
theorem rep_of {zs:List Value}:∀ {n:Nat},rep zs n=some (repL zs n)
 | 0=>rfl
 | n+1=>by
  have hj:∀ (x y:List Value),join x y=some (x++y):=by
   intro x y
   induction x with
   | nil=>rfl
   | cons v x ih=>simp only [join,ih]; rfl
  simp only [rep,rep_of (n:=n),hj]
  simp [repL,List.replicate_succ]
theorem join_of {α:Type}:∀ (x y:List α),join x y=some (x++y)
 | [],y=>rfl
 | v::x,y=>by simp only [join,join_of x y]; rfl
theorem repL_len {zs:List Value} {n:Nat}:(repL zs n).length=n * zs.length:=by simp [repL]
theorem repL_one {z:Value} {n:Nat}:repL [z] n=List.replicate n z:=by
 induction n with
 | zero=>rfl
 | succ n ih=>simp only [repL,List.replicate_succ,List.flatten_cons] at ih ⊢; rw [ih]; rfl
def makeT (P:Program) (t:TypeId):Option (TypeId × Nat × Nat × List Value) :=
 match P.underlying t with
 | some (.slice e)=>match P.info? e,zerosB P e with
  | some i,some zs=>match Nat.beq zs.length i.size with
   | true=>some (e,i.size,i.bytes,zs)
   | false=>none
  | _,_=>none
 | _=>none
theorem makeT_eq {t e:TypeId} {sz by':Nat} {zs:List Value} (h:makeT P t=some (e,sz,by',zs)):P.underlying t=some (.slice e)/\(∃ i,P.info? e=some i/\i.size=sz/\i.bytes=by')/\zerosB P e=some zs/\zs.length=sz:=by
 unfold makeT at h
 split at h
 case h_2=>cases h
 rename_i e' he
 split at h
 case h_2=>cases h
 rename_i i zs' hi hz
 split at h
 case h_2=>cases h
 rename_i hb
 simp at h
 obtain ⟨rfl,rfl,rfl,rfl⟩:=h
 exact ⟨he,⟨i,hi,rfl,rfl⟩,hz,of_beq hb⟩
theorem e_make {t e:TypeId} {x y:Operand} {k1 k2:IntKind} {l c sz bts:Nat} {zs:List Value} (ho:o.op=.makeSlice t x y) (hx:aev a x=some (.int k1 (l:Int))) (hy:aev a y=some (.int k2 (c:Int))) (hT:makeT P t=some (e,sz,bts,zs)) (hl:l<=c) (hc:c * bts<=1000000000000) (hc2:c<=1000000000000) :
  ∀ h,Has h L->∃ r h₁,opB P a o h=some (.val (.slice (some ⟨r,0,none⟩) l c) h₁)/\Has h₁ ((r,.cells e (repL zs c))::L):=by
 intro h H
 obtain ⟨ht,⟨i,hi,hsz,hbt⟩,hz,hzl⟩:=makeT_eq hT
 obtain ⟨h₁,e₁⟩:=h.new_some (.cells e (repL zs c))
 refine ⟨h.next,h₁,?_,H.new e₁⟩
 have b1:ileB 0 (l:Int)=true:=ileB_iff.2 (by omega)
 have b2:ileB (l:Int) (c:Int)=true:=ileB_iff.2 (by omega)
 have b3:smallB c i.bytes=true:=by unfold smallB; exact Nat.ble_eq_true_of_le (by rw [hbt]; exact hc)
 have b4:Nat.beq zs.length i.size=true:=beq_true (by rw [hzl,hsz])
 have b5:Nat.ble c 1000000000000=true:=Nat.ble_eq_true_of_le hc2
 have hs:sizeB P e=some i.size:=by unfold sizeB; rw [hi]
 simp only [opB,ho,hx,hy,makeSliceB,ht,hi,hz,b1,b2,Int.toNat_natCast,b3,b4,b5,Bool.and_self,rep_of,newCells,hs,e₁,retRow]
def appT (P:Program) (c:Call):Option (TypeId × Nat × Nat) :=
 match c.callee with
 | .builtin .append=>match c.argTypes[0]?,c.argTypes[1]? with
  | some st,some xt=>match P.underlying st,P.underlying xt with
   | some (.slice e),some xd=>match xd with
    | .int _=>none
    | _=>match P.info? e,zeroFits P e with
     | some i,true=>some (e,i.size,i.bytes)
     | _,_=>none
   | _,_=>none
  | _,_=>none
 | _=>none
theorem e_append_gen {c:Call} {e:TypeId} {sz bts len cap n:Nat} {base:Option Addr} {x:Value} {new old:List Value} {h h₀:AW} (ho:o.op=.call c) (hT:appT P c=some (e,sz,bts)) (ha:evs a c.args.toList=some [.slice base len cap,x]) (hn:lenB x=some n) (hf:firstB sz n x h=some new)
  (hone:(allOne new && (notText x || Nat.beq sz 1))=true) (hsm:(len+n) * bts<=1000000000000) (hsm2:len+n<=1000000000000)
  (hcase:(cap=openCap/\∃ r off cs,base=some ⟨r,off,none⟩/\getRow h r=some (e,cs)/\cut cs off (len * sz)=some old/\h.put r none=some h₀)∨(cap=0/\len=0/\base=none/\0 < n/\old=[]/\h₀=h)) :
  ∃ h₁,opB P a o h=some (.val (.slice (some ⟨h₀.next,0,none⟩) (len+n) openCap) h₁)/\h₀.new (.cells e (old++new))=some (h₀.next,h₁):=by
 unfold appT at hT
 split at hT
 case h_2=>cases hT
 rename_i hcal
 split at hT
 case h_2=>cases hT
 rename_i st xt hst hxt
 split at hT
 case h_2=>cases hT
 rename_i e' xd hu1 hu2
 have hxd:(∀ k,xd=.int k->False)/\∃ i,P.info? e'=some i/\zeroFits P e'=true/\e'=e/\i.size=sz/\i.bytes=bts:=by
  split at hT
  ·cases hT
  ·rename_i hno
   split at hT
   case h_2=>cases hT
   rename_i i hi hz
   simp at hT
   obtain ⟨rfl,rfl,rfl⟩:=hT
   exact ⟨fun k hk=>hno k hk,i,hi,hz,rfl,rfl,rfl⟩
 obtain ⟨hno,i,hi,hz,rfl,rfl,rfl⟩:=hxd
 obtain ⟨h₁,e₁⟩:=h₀.new_some (.cells e' (old++new))
 refine ⟨h₁,?_,e₁⟩
 have hs:sizeB P e'=some i.size:=by unfold sizeB; rw [hi]
 have b2:Nat.ble (len+n) 1000000000000=true:=Nat.ble_eq_true_of_le hsm2
 have hgrow:growB P h₀ e' (len+n) old new=some (.slice (some ⟨h₀.next,0,none⟩) (len+n) openCap,h₁):=by
  simp only [growB,join_of,hz,b2,Bool.and_self,newCells,hs,e₁]
 simp only [opB,ho,ha,callOpB,hcal,appendB,hst,hxt,hu1,hu2]
 cases xd <;> first | exact (hno _ rfl).elim | skip
 all_goals
  simp only [hi,hn,hf,hone]
  rcases hcase with ⟨rfl,r,off,cs,rfl,hrow,hcut,hput⟩ | ⟨rfl,rfl,rfl,hpos,rfl,rfl⟩
  ·have hc:Nat.beq openCap openCap=true:=beq_true rfl
   have b1:smallB (len+n) i.bytes=true:=by unfold smallB; exact Nat.ble_eq_true_of_le hsm
   simp only [hc,hrow,b1,beq_true rfl,hcut,hput,hgrow,ret2]
  ·have hc:Nat.beq 0 openCap=false:=beq_false (by decide)
   have b0:Nat.ble (0+n) 0=false:=by
    cases hb:Nat.ble (0+n) 0 with
    | false=>rfl
    | true=>have:=of_ble hb; omega
   have b1:smallB (0+n+0) i.bytes=true:=by unfold smallB; exact Nat.ble_eq_true_of_le (by simpa using hsm)
   have bf:firstB i.size 0 (.slice none 0 0) h₀=some []:=by simp [firstB]
   simp only [hc,b0,bf,b1,hgrow,ret2]
theorem e_append (i:Nat) {c:Call} {e:TypeId} {sz bts len n r off:Nat} {x:Value} {new old cs:List Value} (ho:o.op=.call c) (hT:appT P c=some (e,sz,bts)) (ha:evs a c.args.toList=some [.slice (some ⟨r,off,none⟩) len openCap,x]) (hn:lenB x=some n)
  (hf:∀ h,Has h L->firstB sz n x h=some new) (hone:(allOne new && (notText x || Nat.beq sz 1))=true) (hsm:(len+n) * bts<=1000000000000) (hsm2:len+n<=1000000000000)
  (hL:L[i]?=some (r,.cells e cs)) (hcut:cut cs off (len * sz)=some old) (hd:dropL L i=some L₁):∀ h,Has h L->∃ r' h₁,opB P a o h=some (.val (.slice (some ⟨r',0,none⟩) (len+n) openCap) h₁)/\Has h₁ ((r',.cells e (old++new))::L₁):=by
 intro h H
 obtain ⟨h₀,e₀⟩:=h.put_some r none
 obtain ⟨h₁,e₁,e₂⟩:=e_append_gen ho hT ha hn (hf h H) hone hsm hsm2 (.inl ⟨rfl,r,off,cs,rfl,H.row hL,hcut,e₀⟩)
 have:=dropL_eq hd
 subst this
 exact ⟨h₀.next,h₁,e₁,(H.drop hL e₀).new e₂⟩
theorem e_append0 {c:Call} {e:TypeId} {sz bts n:Nat} {x:Value} {new:List Value} (ho:o.op=.call c) (hT:appT P c=some (e,sz,bts)) (ha:evs a c.args.toList=some [.slice none 0 0,x]) (hn:lenB x=some n)
  (hf:∀ h,Has h L->firstB sz n x h=some new) (hone:(allOne new && (notText x || Nat.beq sz 1))=true) (hsm:n * bts<=1000000000000) (hsm2:n<=1000000000000) (hpos:0 < n) :
  ∀ h,Has h L->∃ r' h₁,opB P a o h=some (.val (.slice (some ⟨r',0,none⟩) n openCap) h₁)/\Has h₁ ((r',.cells e new)::L):=by
 intro h H
 obtain ⟨h₁,e₁,e₂⟩:=e_append_gen (h₀:=h) (old:=[]) ho hT ha hn (hf h H) hone (by simpa using hsm) (by simpa using hsm2) (.inr ⟨rfl,rfl,rfl,hpos,rfl,rfl⟩)
 exact ⟨h.next,h₁,by simpa using e₁,H.new e₂⟩
theorem first_text {n:Nat} {sz:Nat} {bs:List UInt8} (hn:n=bs.length):∀ h,Has h L->firstB sz n (.string ⟨⟨bs⟩⟩) h=some (byteCells bs):=by
 intro h _
 subst hn
 simp only [firstB,takeAll,beq_true rfl,cellsOfB_bytes]
theorem OS.opened {ops rest:List Oper} {K:Slots->RL->Prop} (d i:Nat) {r off len cap sz:Nat} {e:TypeId} {cs:List Value} (hd:a[d]?=some (.slice (some ⟨r,off,none⟩) len cap)) (hL:L[i]?=some (r,.cells e cs)) (hs:sizeB P e=some sz) (hb:off+cap * sz<=cs.length) (hlt:cap < openCap)
  (ep:setAt a d (.slice (some ⟨r,off,none⟩) len openCap)=some a₁) (k:OS P ops rest a₁ L K):OS P ops rest a L K:=by
 intro h H ro ds opsA i' ρ act w Q ho hdr hr hdf HR hQ
 refine k h H ro ds opsA i' ρ act w Q ho hdr ?_ hdf HR hQ
 obtain ⟨u,hu,hv⟩:=hr.get hd
 have hl:∃ l,ρ r=some l/\RowRel P ρ w l (.cells e cs):=HR.loc _ _ (H.at hL)
 obtain ⟨l,hl,C,f,h1,h2,h3,h4,h5,_⟩:=hl
 have hesz:l.esz=sz:=by have h5:=h5.size; rw [hs] at h5; simpa using h5.symm
 have hv':VRel ρ (.slice (some ⟨r,off,none⟩) len openCap) u:=by
  cases hv with
  | @slice _ _ _ _ cap' ad hl' hc' ha' =>
   have hcc:=hc' (by omega)
   refine .slice hl' (fun hh=>absurd rfl hh) fun hz=>?_
   obtain ⟨l',e1,e2,_⟩:=ha' hz
   rw [hl] at e1; simp at e1; subst e1
   exact ⟨l,hl,e2,fun _=>⟨by rw [hesz,hcc]; omega,by rw [hcc]; exact hlt⟩⟩
 have:=setAt_rel ep hr hv'
 have hset:act.tmps.toList.set d u=act.tmps.toList:=by
  apply List.ext_getElem?
  intro j
  rw [List.getElem?_set]
  by_cases hj:d=j
  ·subst hj; rw [if_pos rfl,if_pos (List.getElem?_eq_some_iff.1 hu).1,hu]
  ·rw [if_neg hj]
 rwa [hset] at this
end
section
variable {P:Program} {ops:List Oper} {ms:List Nat} {K:Slots->RL->Prop} {sched:List (Nat × Bool)} {dn:Dn} {a a₁:Slots} {L L₁:RL} {o:Oper} {v:Value} {i:Nat}
def Always (P:Program) (ops:List Oper) (e:Nat × Slots × Value):Prop:=∀ p,ops[e.1]?=some p->∀ h,StepQ P e.2.1 p h e.2.2
def ODS (P:Program) (ops:List Oper) (ms:List Nat) (K:Slots->RL->Prop) (sched:List (Nat × Bool)) (dn:Dn) (a:Slots) (L:RL):Prop :=
 ∀ h,Has h L->∀ dn₀:Dn,(∀ e,e∈dn₀->e∈dn∨Always P ops e)->OD P ops ms (fun a' h'=>∃ L',K a' L'/\Has h' L') sched dn₀ a h
def Keep (P:Program) (ops:List Oper) (ms:List Nat) (i:Nat) (dn:Dn) (L:RL):Prop :=
 ∀ h,Has h L->∀ e,e∈dn->ahead ms i e.1=false->∀ p,ops[e.1]?=some p->StepQ P e.2.1 p h e.2.2
theorem Keep.nil:Keep P ops ms i [] L:=fun _ _ _ he=>(by cases he)
theorem Keep.gone {j:Nat} {b:Slots} {u:Value} (hj:ahead ms i j=true) (k:Keep P ops ms i dn L):Keep P ops ms i ((j,b,u)::dn) L:=fun h H e he hah p hp=>by
 rcases List.mem_cons.1 he with rfl | he
 ·simp only at hah; rw [hj] at hah; cases hah
 ·exact k h H e he hah p hp
theorem Keep.cons {j:Nat} {b:Slots} {u:Value} {q:Oper} (hj:ops[j]?=some q) (e:∀ h,Has h L->opB P b q h=some (.val u h)) (k:Keep P ops ms i dn L):Keep P ops ms i ((j,b,u)::dn) L:=fun h H e' he hah p hp=>by
 rcases List.mem_cons.1 he with rfl | he
 ·simp only at hp; rw [hj] at hp; simp at hp; subst hp; exact .inl (e h H)
 ·exact k h H e' he hah p hp
theorem xM (k:K a L):ODS P ops ms K [] dn a L:=fun h H dn₀ _=>by simp only [OD]; exact ⟨L,k,H⟩
theorem xS {wr:Bool} (hi:ops[i]?=some o) (hw:skipB ops o a=true) (ep:putAt a o.dst undef=some a₁) (k:ODS P ops ms K sched dn a₁ L):ODS P ops ms K ((i,wr)::sched) dn a L:=fun h H dn₀ hdn=>by
 simp only [OD]
 exact ⟨o,hi,.inl ⟨hw,a₁,ep,k h H dn₀ hdn⟩⟩
theorem xD (hi:ops[i]?=some o) (hw:wantedB ops o a=true) (e:∀ h,opB P a o h=some (.val v h)) (ep:putAt a o.dst v=some a₁) (k:ODS P ops ms K sched dn a₁ L):ODS P ops ms K ((i,false)::sched) dn a L:=fun h H dn₀ hdn=>by
 simp only [OD]
 refine ⟨o,hi,.inr (.inl ⟨hw,by simp,v,a₁,.inl (e h),ep,k h H _ fun e' he=>?_⟩)⟩
 rcases List.mem_cons.1 he with rfl | he
 ·exact .inr fun p hp h'=>by simp only at hp; rw [hi] at hp; simp at hp; subst hp; exact .inl (e h')
 ·exact hdn e' he
theorem xE (hi:ops[i]?=some o) (hw:wantedB ops o a=true) (e:∀ h,Has h L->opB P a o h=some (.val v h)) (ep:putAt a o.dst v=some a₁) (k:ODS P ops ms K sched ((i,a,v)::dn) a₁ L):ODS P ops ms K ((i,false)::sched) dn a L:=fun h H dn₀ hdn=>by
 simp only [OD]
 refine ⟨o,hi,.inr (.inl ⟨hw,by simp,v,a₁,.inl (e h H),ep,k h H _ fun e' he=>?_⟩)⟩
 rcases List.mem_cons.1 he with rfl | he
 ·exact .inl (by simp)
 ·exact (hdn e' he).imp (fun h=>List.mem_cons_of_mem _ h) id
theorem keepDn {dn₀:Dn} {h:AW} (hdn:∀ e,e∈dn₀->e∈dn∨Always P ops e) (hk:Keep P ops ms i dn L) (H:Has h L):∀ e,e∈dn₀->ahead ms i e.1=false->∀ p,ops[e.1]?=some p->StepQ P e.2.1 p h e.2.2:=fun e he hah p hp=>by
 rcases hdn e he with he | he
 ·exact hk h H e he hah p hp
 ·exact he p hp h
theorem ODS.write (hi:ops[i]?=some o) (hw:wantedB ops o a=true) (e:∀ h,Has h L->∃ h₁,opB P a o h=some (.val v h₁)/\Has h₁ L₁) (ep:putAt a o.dst v=some a₁) (hk:Keep P ops ms i dn L₁) (k:ODS P ops ms K sched dn a₁ L₁):ODS P ops ms K ((i,true)::sched) dn a L:=fun h H dn₀ hdn=>by
 simp only [OD]
 obtain ⟨h₁,e₁,H₁⟩:=e h H
 exact ⟨o,hi,.inr (.inr ⟨hw,by simp,.inl ⟨v,h₁,e₁,a₁,ep,keepDn hdn hk H₁,k h₁ H₁ dn₀ hdn⟩⟩)⟩
theorem ODS.fresh {V:Nat->Value} {A:Nat->Slots} {M:Nat->RL} (hi:ops[i]?=some o) (hw:wantedB ops o a=true) (e:∀ h,Has h L->∃ r h₁,opB P a o h=some (.val (V r) h₁)/\Has h₁ (M r)) (ep:∀ r,putAt a o.dst (V r)=some (A r)) (hk:∀ r,Keep P ops ms i dn (M r)) (k:∀ r,ODS P ops ms K sched dn (A r) (M r)):ODS P ops ms K ((i,true)::sched) dn a L:=fun h H dn₀ hdn=>by
 simp only [OD]
 obtain ⟨r,h₁,e₁,H₁⟩:=e h H
 exact ⟨o,hi,.inr (.inr ⟨hw,by simp,.inl ⟨_,h₁,e₁,A r,ep r,keepDn hdn (hk r) H₁,k r h₁ H₁ dn₀ hdn⟩⟩)⟩
theorem ODS.turns {R:Value->RL->Prop} (hi:ops[i]?=some o) (hw:wantedB ops o a=true) (e:∀ h,Has h L->∃ v h₁ L₁,opB P a o h=some (.val v h₁)/\Has h₁ L₁/\R v L₁) (k:∀ v L₁,R v L₁->∃ a₁,putAt a o.dst v=some a₁/\Keep P ops ms i dn L₁/\ODS P ops ms K sched dn a₁ L₁):ODS P ops ms K ((i,true)::sched) dn a L:=fun h H dn₀ hdn=>by
 simp only [OD]
 obtain ⟨v,h₁,L₁,e₁,H₁,hR⟩:=e h H
 obtain ⟨a₁,ep,hk,k⟩:=k v L₁ hR
 exact ⟨o,hi,.inr (.inr ⟨hw,by simp,.inl ⟨_,h₁,e₁,a₁,ep,keepDn hdn hk H₁,k h₁ H₁ dn₀ hdn⟩⟩)⟩
theorem ODS.call {f:FuncId} {args:List Value} (hi:ops[i]?=some o) (hw:wantedB ops o a=true) (e:∀ h,opB P a o h=some (.call f args)) (hc:CS P f args L fun v L₁=>∃ a₁,putAt a o.dst v=some a₁/\Keep P ops ms i dn L₁/\ODS P ops ms K sched dn a₁ L₁):ODS P ops ms K ((i,true)::sched) dn a L:=fun h H dn₀ hdn=>by
 simp only [OD]
 refine ⟨o,hi,.inr (.inr ⟨hw,by simp,.inr ⟨f,args,e h,(hc h H).mono ?_⟩⟩)⟩
 rintro v h₁ ⟨L₁,⟨a₁,ep,hk,k⟩,H₁⟩
 exact ⟨a₁,ep,keepDn hdn hk H₁,k h₁ H₁ dn₀ hdn⟩
theorem LS.drawn {rd:Option Nat} (hg:noGo P=true) (hmix:P.follows .mixedOrders=true) {id:Nat} {opsA:Array Oper} {R:AExit->Slots->RL->Prop} (sched:List (Nat × Bool)) (hl:opsA.toList=ops) (hm:masksB ops []=some ms) (hok:drawOk2 ops ms sched=true) (k:ODS P ops ms (R .normal) sched [] a L):LSr rd P (.region id opsA true) a L R :=
 fun h H=>LQ.drawn2 hg hmix hl hm hok (k h H [] fun _ he=>(by cases he))
end
section
variable {P:Program} {a:Slots} {o:Oper}
def inK (k:IntKind) (n:Int):Bool:=ileB (leastB k) n && ileB n (mostB k)
theorem wrap_in {k:IntKind} {n:Int} (h:inK k n=true):wrapB k n=n:=by
 unfold wrapB; unfold inK at h; rw [h]
theorem in_i64 {n:Int} (h0:-9223372036854775808<=n) (h1:n<=9223372036854775807):inK .i64 n=true:=by
 unfold inK
 rw [Bool.and_eq_true,ileB_iff,ileB_iff]
 exact ⟨h0,h1⟩
theorem in_u64 {n:Int} (h0:0<=n) (h1:n<=18446744073709551615):inK .u64 n=true:=by
 unfold inK
 rw [Bool.and_eq_true,ileB_iff,ileB_iff]
 exact ⟨h0,h1⟩
theorem in_u8 {n:Int} (h0:0<=n) (h1:n<=255):inK .u8 n=true:=by
 unfold inK
 rw [Bool.and_eq_true,ileB_iff,ileB_iff]
 exact ⟨h0,h1⟩
theorem lt_of {x y:Int} (h:(!ileB y x)=true):x < y:=by
 have:¬ y<=x:=fun hh=>by rw [ileB_iff.2 hh] at h; cases h
 omega
theorem nlt_of {x y:Int} (h:(!ileB y x)=false):y<=x:=by
 cases hb:ileB y x with
 | true=>exact ileB_iff.1 hb
 | false=>rw [hb] at h; cases h
theorem le_of {x y:Int} (h:ileB x y=true):x<=y:=ileB_iff.1 h
theorem nle_of {x y:Int} (h:ileB x y=false):y < x:=by
 have:¬ x<=y:=fun hh=>by rw [ileB_iff.2 hh] at h; cases h
 omega
end
end Go.Am
namespace Go.Am
def SV (sz:Nat) (L:RL) (v:Value) (n:Nat) (cs:List Value):Prop :=
 (v=.slice none 0 0/\n=0/\cs=[])∨∃ r off cap row cs₀,v=.slice (some ⟨r,off,none⟩) n cap/\(r,row)∈L/\rdRow row=some cs₀/\cut cs₀ off (n * sz)=some cs
theorem SV.mono {sz n:Nat} {L L':RL} {v:Value} {cs:List Value} (h:SV sz L v n cs) (hm:∀ p,p∈L->p∈L'):SV sz L' v n cs:=by
 rcases h with h | ⟨r,off,cap,row,cs₀,h1,h2,h3⟩
 ·exact .inl h
 ·exact .inr ⟨r,off,cap,row,cs₀,h1,hm _ h2,h3⟩
theorem SV.cons {sz n:Nat} {L:RL} {x:Nat × ARow} {v:Value} {cs:List Value} (h:SV sz L v n cs):SV sz (x::L) v n cs:=h.mono fun _ hp=>List.mem_cons_of_mem _ hp
theorem SV.row {sz n r cap:Nat} {e:TypeId} {L:RL} {cs:List Value} (hm:(r,.cells e cs)∈L) (hl:cs.length=n * sz):SV sz L (.slice (some ⟨r,0,none⟩) n cap) n cs :=
 .inr ⟨r,0,cap,_,cs,rfl,hm,rfl,cut_all hl⟩
theorem SV.len {sz n:Nat} {L:RL} {v:Value} {cs:List Value} (h:SV sz L v n cs):cs.length=n * sz:=by
 rcases h with ⟨_,rfl,rfl⟩ | ⟨r,off,cap,row,cs₀,_,_,_,hc⟩
 ·simp
 ·exact (cut_eq hc).2.2.1
theorem Has.mem {h:AW} {L:RL} {r:Nat} {row:ARow} {cs:List Value} (H:Has h L) (hm:(r,row)∈L) (hc:rdRow row=some cs):readRow h r=some cs:=by
 have:=H.get _ hm
 unfold readRow
 cases row <;> simp only [rdRow,Option.some.injEq,reduceCtorEq] at hc <;> subst hc <;> rw [this]
theorem SV.lenB {sz n:Nat} {L:RL} {v:Value} {cs:List Value} (h:SV sz L v n cs):Am.lenB v=some n:=by
 rcases h with ⟨rfl,rfl,_⟩ | ⟨r,off,cap,row,cs₀,rfl,_⟩ <;> rfl
theorem SV.notText {sz n:Nat} {L:RL} {v:Value} {cs:List Value} (h:SV sz L v n cs):Am.notText v=true:=by
 rcases h with ⟨rfl,rfl,_⟩ | ⟨r,off,cap,row,cs₀,rfl,_⟩ <;> rfl
theorem SV.first {sz n:Nat} {L:RL} {v:Value} {cs:List Value} {h:AW} (hs:SV sz L v n cs) (H:Has h L):firstB sz n v h=some cs:=by
 rcases hs with ⟨rfl,rfl,rfl⟩ | ⟨r,off,cap,row,cs₀,rfl,hm,hc,hcut⟩
 ·rfl
 ·simp only [firstB]
  cases hb:Nat.beq n 0 with
  | true =>
   have:=of_beq hb
   subst this
   have:cs=[]:=by have:=(cut_eq hcut).2.2.1; exact List.eq_nil_of_length_eq_zero (by simpa using this)
   subst this; rfl
  | false=>simp only [H.mem hm hc,hcut]
theorem cut_get {xs ys:List Value} {off n j:Nat} {v:Value} (h:cut xs off n=some ys) (hj:ys[j]?=some v):xs[off+j]?=some v:=by
 obtain ⟨rfl,_,_,_⟩:=cut_eq h
 rw [List.getElem?_take] at hj
 split at hj
 ·simpa using hj
 ·cases hj
theorem cut_cut {xs ys zs:List Value} {off n o m:Nat} (h:cut xs off n=some ys) (h':cut ys o m=some zs):cut xs (off+o) m=some zs:=by
 obtain ⟨rfl,h1,h2,h3⟩:=cut_eq h
 obtain ⟨rfl,h1',h2',h3'⟩:=cut_eq h'
 simp only [List.length_take,List.length_drop] at h2 h2' h1' h3'
 have hl:off+o+m<=xs.length:=by omega
 have hm:m<=n - o:=by omega
 rw [cut_of hl,List.drop_take,List.take_take,List.drop_drop,Nat.min_eq_left hm]
theorem cut_zero {xs:List Value}:cut xs 0 0=some []:=by cases xs <;> rfl
theorem byteCells_one (bs:List UInt8):allOne (byteCells bs)=true:=by
 induction bs with
 | nil=>rfl
 | cons b bs ih=>simpa [byteCells,allOne,oneB] using ih
theorem byteCells_get {bs:List UInt8} {j:Nat} {b:UInt8} (h:bs[j]?=some b):(byteCells bs)[j]?=some (.int .u8 (b.toNat:Int)):=by simp [byteCells,h]
theorem byteCells_snoc (bs:List UInt8) {x:Int} {b:UInt8} (h:x=(b.toNat:Int)):byteCells bs++[.int .u8 x]=byteCells (bs++[b]):=by
 subst h; simp [byteCells]
section
variable {P:Program} {a a₁:Slots} {o:Oper} {L L₁:RL} {t z:TypeId} {x y:Operand} {k:IntKind} {m n:Int}
theorem e_add (ho:o.op=.binOp .add t x y z) (hx:aev a x=some (.int k m)) (hy:aev a y=some (.int k n)) (hi:inK k (m+n)=true):∀ h,opB P a o h=some (.val (.int k (m+n)) h):=by
 intro h
 simp only [opB,ho,hx,hy,eqOk,binB,if_true,wrap_in hi,ret]
theorem e_sub (ho:o.op=.binOp .sub t x y z) (hx:aev a x=some (.int k m)) (hy:aev a y=some (.int k n)) (hi:inK k (m - n)=true):∀ h,opB P a o h=some (.val (.int k (m - n)) h):=by
 intro h
 simp only [opB,ho,hx,hy,eqOk,binB,if_true,wrap_in hi,ret]
theorem e_mul (ho:o.op=.binOp .mul t x y z) (hx:aev a x=some (.int k m)) (hy:aev a y=some (.int k n)) (hi:inK k (m * n)=true):∀ h,opB P a o h=some (.val (.int k (m * n)) h):=by
 intro h
 simp only [opB,ho,hx,hy,eqOk,binB,if_true,wrap_in hi,ret]
theorem e_quo {m n:Nat} (ho:o.op=.binOp .quo t x y z) (hx:aev a x=some (.int k (m:Int))) (hy:aev a y=some (.int k (n:Int))) (hn:n≠0) (hi:inK k ((m / n:Nat):Int)=true):∀ h,opB P a o h=some (.val (.int k ((m / n:Nat):Int)) h):=by
 intro h
 have h0:ieqB (n:Int) 0=false:=by rw [ieqB_eq]; simpa using hn
 have h1:(m:Int).tdiv (n:Int)=((m / n:Nat):Int):=by rw [Int.tdiv_eq_ediv_of_nonneg (by omega)]; rfl
 simp only [opB,ho,hx,hy,eqOk,binB,if_true,h0,h1,wrap_in hi,ret]
theorem e_rem {m n:Nat} (ho:o.op=.binOp .rem t x y z) (hx:aev a x=some (.int k (m:Int))) (hy:aev a y=some (.int k (n:Int))) (hn:n≠0):∀ h,opB P a o h=some (.val (.int k ((m % n:Nat):Int)) h):=by
 intro h
 have h0:ieqB (n:Int) 0=false:=by rw [ieqB_eq]; simpa using hn
 have h1:(m:Int).tmod (n:Int)=((m % n:Nat):Int):=by rw [Int.tmod_eq_emod_of_nonneg (by omega)]; rfl
 simp only [opB,ho,hx,hy,eqOk,binB,if_true,h0,h1,ret]
theorem e_conv {src dst:TypeId} {k k':IntKind} (ho:o.op=.convert src dst x) (hx:aev a x=some (.int k n)) (hs:P.underlying src=some (.int k)) (hd:P.underlying dst=some (.int k')) (hi:inK k' n=true):∀ h,opB P a o h=some (.val (.int k' n) h):=by
 intro h
 simp only [opB,ho,hx,convB,hs,hd,wrap_in hi,ret2]
theorem e_is {v v':Value} (e:∀ h,opB P a o h=some (.val v h)) (hv:v=v'):∀ h,opB P a o h=some (.val v' h):=hv ▸ e
theorem e_is' {v v':Value} (e:∀ h,Has h L->opB P a o h=some (.val v h)) (hv:v=v'):∀ h,Has h L->opB P a o h=some (.val v' h):=hv ▸ e
theorem e_len {c:Call} {sz n:Nat} {v:Value} {cs:List Value} {t e:TypeId} (hs:SV sz L v n cs) (ho:o.op=.call c) (hc:c.callee=.builtin .len) (ha:evs a c.args.toList=some [v]) (ht:c.argTypes[0]?=some t) (hu:P.underlying t=some (.slice e)):∀ h,opB P a o h=some (.val (.int .i64 n) h):=by
 intro h
 rcases hs with ⟨rfl,rfl,rfl⟩ | ⟨r,off,cap,row,cs₀,rfl,_⟩ <;> simp only [opB,ho,ha,callOpB,hc,lenOpB,ht,hu,ret,goInt] <;> rfl
theorem e_at {t e:TypeId} {i:Operand} {sz n j:Nat} {k:IntKind} {v:Value} {cs:List Value} (hs:SV sz L v n cs) (hj:j < n) (ho:o.op=.indexAddr t x i) (hx:aev a x=some v) (hi:aev a i=some (.int k (j:Int))) (ht:P.underlying t=some (.slice e)) (hz:sizeB P e=some sz) :
  ∃ r off row cs₀,(r,row)∈L/\rdRow row=some cs₀/\(∀ m u,m < sz->cs[j * sz+m]?=some u->cs₀[off+m]?=some u)/\(∀ us,cut cs (j * sz) sz=some us->cut cs₀ off sz=some us)/\∀ h,opB P a o h=some (.val (.pointer (some ⟨r,off,none⟩)) h):=by
 rcases hs with ⟨rfl,rfl,rfl⟩ | ⟨r,off,cap,row,cs₀,rfl,hm,hc,hcut⟩
 ·omega
 ·refine ⟨r,off+j * sz,row,cs₀,hm,hc,fun m u _ hu=>?_,fun us hu=>?_,e_index ho hx hi ht hz hj⟩
  ·have:=cut_get hcut hu
   rwa [Nat.add_assoc]
  ·exact cut_cut hcut hu
theorem e_loadm {t:TypeId} {r off:Nat} {row:ARow} {cs:List Value} {v:Value} (hm:(r,row)∈L) (hc:rdRow row=some cs) (ho:o.op=.load t x) (hx:aev a x=some (.pointer (some ⟨r,off,none⟩))) (hv:partB P t cs off=some v):∀ h,Has h L->opB P a o h=some (.val v h):=by
 intro h H
 simp only [opB,ho,hx,loadB,H.mem hm hc,hv,ret]
theorem part_one {t:TypeId} {cs:List Value} {off:Nat} {v:Value} (ht:isAggB P t=some false) (hv:cs[off]?=some v):partB P t cs off=some v:=by unfold partB; rw [ht]; exact hv
theorem e_textSV {src dst e:TypeId} {n:Nat} {v:Value} {bs:List UInt8} (hs:SV 1 L v n (byteCells bs)) (ho:o.op=.convert src dst x) (hx:aev a x=some v) (h1:P.underlying src=some (.slice e)) (h2:P.underlying dst=some .string) (hu:isU8 P e=true):∀ h,Has h L->opB P a o h=some (.val (.string ⟨⟨bs⟩⟩) h):=by
 intro h H
 rcases hs with ⟨rfl,rfl,hb⟩ | ⟨r,off,cap,row,cs₀,rfl,hm,hc,hcut⟩
 ·have:bs=[]:=by simpa [byteCells] using hb
  subst this
  exact e_text0 ho hx h1 h2 hu h
 ·simp only [opB,ho,hx,convB,h1,h2,hu]
  cases hl:Nat.beq n 0 with
  | true =>
   have:=of_beq hl
   subst this
   have:bs=[]:=by
    have:=(cut_eq hcut).2.2.1
    simp [byteCells] at this
    exact this
   subst this; rfl
  | false =>
   rw [Nat.mul_one] at hcut
   simp only [H.mem hm hc,hcut,bytesOfB_cells,ret2]
theorem e_appendSV (i:Nat) {c:Call} {e:TypeId} {sz bts len n r off:Nat} {x:Value} {new old cs:List Value} (hs:SV sz L x n new) (hone:allOne new=true) (ho:o.op=.call c) (hT:appT P c=some (e,sz,bts)) (ha:evs a c.args.toList=some [.slice (some ⟨r,off,none⟩) len openCap,x])
  (hsm:(len+n) * bts<=1000000000000) (hsm2:len+n<=1000000000000) (hL:L[i]?=some (r,.cells e cs)) (hcut:cut cs off (len * sz)=some old) (hd:dropL L i=some L₁) :
  ∀ h,Has h L->∃ r' h₁,opB P a o h=some (.val (.slice (some ⟨r',0,none⟩) (len+n) openCap) h₁)/\Has h₁ ((r',.cells e (old++new))::L₁) :=
 e_append i ho hT ha hs.lenB (fun h H=>hs.first H) (by rw [hone,hs.notText]; rfl) hsm hsm2 hL hcut hd
def GV (e:TypeId) (sz:Nat) (F:RL) (v:Value) (n:Nat) (cs:List Value) (L:RL):Prop :=
 (v=.slice none 0 0/\n=0/\cs=[]/\L=F)∨∃ r,v=.slice (some ⟨r,0,none⟩) n openCap/\cs.length=n * sz/\L=(r,.cells e cs)::F
theorem GV.nil {e:TypeId} {sz:Nat} {F:RL}:GV e sz F (.slice none 0 0) 0 [] F:=.inl ⟨rfl,rfl,rfl,rfl⟩
theorem GV.of {e:TypeId} {sz n r:Nat} {F:RL} {cs:List Value} (h:cs.length=n * sz):GV e sz F (.slice (some ⟨r,0,none⟩) n openCap) n cs ((r,.cells e cs)::F):=.inr ⟨r,rfl,h,rfl⟩
theorem GV.sv {e:TypeId} {sz n:Nat} {F L:RL} {v:Value} {cs:List Value} (g:GV e sz F v n cs L):SV sz L v n cs:=by
 rcases g with ⟨rfl,rfl,rfl,rfl⟩ | ⟨r,rfl,hl,rfl⟩
 ·exact .inl ⟨rfl,rfl,rfl⟩
 ·exact SV.row (e:=e) (by simp) hl
theorem e_appendGV (X:RL) {c:Call} {e:TypeId} {sz bts n m:Nat} {F L:RL} {v x:Value} {cs new:List Value} (g:GV e sz F v n cs L) (hs:SV sz (X++L) x m new) (hm:0 < m) (hone:allOne new=true) (ho:o.op=.call c) (hT:appT P c=some (e,sz,bts)) (ha:evs a c.args.toList=some [v,x])
  (hsm:(n+m) * bts<=1000000000000) (hsm2:n+m<=1000000000000) :
  ∀ h,Has h (X++L)->∃ r' h₁,opB P a o h=some (.val (.slice (some ⟨r',0,none⟩) (n+m) openCap) h₁)/\Has h₁ ((r',.cells e (cs++new))::(X++F)):=by
 intro h H
 rcases g with ⟨rfl,rfl,rfl,rfl⟩ | ⟨r,rfl,hl,rfl⟩
 ·obtain ⟨r',h₁,e₁,H₁⟩:=e_append0 ho hT ha hs.lenB (fun h H=>hs.first H) (by rw [hone,hs.notText]; rfl) (by simpa using hsm) (by simpa using hsm2) hm h H
  exact ⟨r',h₁,by simpa using e₁,by simpa using H₁⟩
 ·have hX:(X++(r,.cells e cs)::F)[X.length]?=some (r,.cells e cs):=by simp
  have hd:∀ (X:RL),dropL (X++(r,.cells e cs)::F) X.length=some (X++F):=by
   intro X
   induction X with
   | nil=>rfl
   | cons y X ih=>simp only [List.cons_append,List.length_cons,dropL,ih]
  exact e_appendSV X.length hs hone ho hT ha hsm hsm2 hX (cut_all hl) (hd X) h H
theorem OS.at {ops rest:List Oper} {K:Slots->RL->Prop} {t e:TypeId} {i:Operand} {sz n j:Nat} {k:IntKind} {v:Value} {cs:List Value} (hs:SV sz L v n cs) (hj:j < n) (hw:wantedB ops o a=true) (ho:o.op=.indexAddr t x i) (hx:aev a x=some v) (hi:aev a i=some (.int k (j:Int)))
  (ht:P.underlying t=some (.slice e)) (hz:sizeB P e=some sz) (hk:∀ r off row cs₀,(r,row)∈L->rdRow row=some cs₀->(∀ m u,m < sz->cs[j * sz+m]?=some u->cs₀[off+m]?=some u)->(∀ us,cut cs (j * sz) sz=some us->cut cs₀ off sz=some us) →
   ∃ a₁,putAt a o.dst (.pointer (some ⟨r,off,none⟩))=some a₁/\OS P ops rest a₁ L K):OS P ops (o::rest) a L K:=by
 obtain ⟨r,off,row,cs₀,h1,h2,h3,h4,h5⟩:=e_at hs hj ho hx hi ht hz
 obtain ⟨a₁,ep,k'⟩:=hk r off row cs₀ h1 h2 h3 h4
 exact xP hw h5 ep k'
theorem ODS.at {ops:List Oper} {ms:List Nat} {sched:List (Nat × Bool)} {dn:Dn} {q:Nat} {K:Slots->RL->Prop} {t e:TypeId} {i:Operand} {sz n j:Nat} {k:IntKind} {v:Value} {cs:List Value} (hs:SV sz L v n cs) (hj:j < n) (hq:ops[q]?=some o) (hw:wantedB ops o a=true) (ho:o.op=.indexAddr t x i) (hx:aev a x=some v) (hi:aev a i=some (.int k (j:Int)))
  (ht:P.underlying t=some (.slice e)) (hz:sizeB P e=some sz) (hk:∀ r off row cs₀,(r,row)∈L->rdRow row=some cs₀->(∀ m u,m < sz->cs[j * sz+m]?=some u->cs₀[off+m]?=some u)->(∀ us,cut cs (j * sz) sz=some us->cut cs₀ off sz=some us) →
   ∃ a₁,putAt a o.dst (.pointer (some ⟨r,off,none⟩))=some a₁/\ODS P ops ms K sched dn a₁ L):ODS P ops ms K ((q,false)::sched) dn a L:=by
 obtain ⟨r,off,row,cs₀,h1,h2,h3,h4,h5⟩:=e_at hs hj ho hx hi ht hz
 obtain ⟨a₁,ep,k'⟩:=hk r off row cs₀ h1 h2 h3 h4
 exact xD hq hw h5 ep k'
theorem OS.at1 {ops rest:List Oper} {K:Slots->RL->Prop} {t e:TypeId} {i:Operand} {n j:Nat} {k:IntKind} {v u:Value} {cs:List Value} (hs:SV 1 L v n cs) (hu:cs[j]?=some u) (hw:wantedB ops o a=true) (ho:o.op=.indexAddr t x i) (hx:aev a x=some v) (hi:aev a i=some (.int k (j:Int)))
  (ht:P.underlying t=some (.slice e)) (hz:sizeB P e=some 1) (hk:∀ r off row cs₀,(r,row)∈L->rdRow row=some cs₀->cs₀[off]?=some u →
   ∃ a₁,putAt a o.dst (.pointer (some ⟨r,off,none⟩))=some a₁/\OS P ops rest a₁ L K):OS P ops (o::rest) a L K :=
 OS.at hs (by have:=(List.getElem?_eq_some_iff.1 hu).1; have:=hs.len; omega) hw ho hx hi ht hz fun r off row cs₀ h1 h2 h3 _=>hk r off row cs₀ h1 h2 (h3 0 u (by omega) (by rw [Nat.mul_one]; exact hu))
theorem ODS.at1 {ops:List Oper} {ms:List Nat} {sched:List (Nat × Bool)} {dn:Dn} {q:Nat} {K:Slots->RL->Prop} {t e:TypeId} {i:Operand} {n j:Nat} {k:IntKind} {v u:Value} {cs:List Value} (hs:SV 1 L v n cs) (hu:cs[j]?=some u) (hq:ops[q]?=some o) (hw:wantedB ops o a=true) (ho:o.op=.indexAddr t x i) (hx:aev a x=some v) (hi:aev a i=some (.int k (j:Int)))
  (ht:P.underlying t=some (.slice e)) (hz:sizeB P e=some 1) (hk:∀ r off row cs₀,(r,row)∈L->rdRow row=some cs₀->cs₀[off]?=some u →
   ∃ a₁,putAt a o.dst (.pointer (some ⟨r,off,none⟩))=some a₁/\ODS P ops ms K sched dn a₁ L):ODS P ops ms K ((q,false)::sched) dn a L :=
 ODS.at hs (by have:=(List.getElem?_eq_some_iff.1 hu).1; have:=hs.len; omega) hq hw ho hx hi ht hz fun r off row cs₀ h1 h2 h3 _=>hk r off row cs₀ h1 h2 (h3 0 u (by omega) (by rw [Nat.mul_one]; exact hu))
theorem e_byte {s:List UInt8} {j:Nat} {b:UInt8} (ho:o.op=.index t x y) (hx:aev a x=some (.string ⟨⟨s⟩⟩)) (hy:aev a y=some (.int k (j:Int))) (ht:P.underlying t=some .string) (hj:s[j]?=some b):∀ h,opB P a o h=some (.val (.int .u8 (b.toNat:Int)) h):=by
 intro h
 have hb:ileB 0 (j:Int)=true:=ileB_iff.2 (by omega)
 simp only [opB,ho,hx,hy,indexB,ht,hb,Int.toNat_natCast,hj,ret]
theorem e_sliceSV {e:TypeId} {lo hi:Option Operand} {lo' hi':Option Value} {v:Value} {sz n l u:Nat} {cs:List Value} (hs:SV sz L v n cs) (hn:∀ r off cap row cs₀,v=.slice (some ⟨r,off,none⟩) n cap->(r,row)∈L->rdRow row=some cs₀->(cap < openCap/\n<=cap)∨(cap=openCap/\∃ cs₁,row=.cells e cs₁)) (ho:o.op=.slice t x lo hi none) (hx:aev a x=some v)
  (hlo:optEv a lo=some lo') (hhi:optEv a hi=some hi') (bl:boundB lo' 0=some l) (bu:boundB hi' n=some u) (ht:P.underlying t=some (.slice e)) (hz:sizeB P e=some sz) (hu:u<=n) (hl:l<=u) :
  ∃ v',SV sz L v' (u - l) ((cs.drop (l * sz)).take ((u - l) * sz))/\∀ h,Has h L->opB P a o h=some (.val v' h):=by
 have hm:optEv a none=some none:=rfl
 have h2:Nat.ble l u=true:=Nat.ble_eq_true_of_le hl
 rcases hs with ⟨rfl,rfl,rfl⟩ | ⟨r,off,cap,row,cs₀,rfl,hmem,hc,hcut⟩
 ·have hu0:u=0:=by omega
  subst hu0
  have hl0:l=0:=by omega
  subst hl0
  refine ⟨.slice none 0 0,.inl ⟨rfl,rfl,by simp⟩,fun h _=>?_⟩
  have hc:Nat.beq 0 openCap=false:=beq_false (by decide)
  have h1:Nat.ble 0 (farB 0 0)=true:=rfl
  have h3:rowOk h e none 0=true:=by unfold rowOk; rw [hc]; rfl
  simp only [opB,ho,hx,hlo,hhi,hm,sliceB,ht,bu,bl,hz,h1,h2,h3,Bool.true_and,moved,hc,ret]
 ·have hlen:=(cut_eq hcut).2.2.1
  have hcut':cut cs₀ (off+l * sz) ((u - l) * sz)=some ((cs.drop (l * sz)).take ((u - l) * sz)):=by
   refine cut_cut hcut (cut_of ?_)
   rw [hlen,← Nat.add_mul]
   exact Nat.mul_le_mul_right _ (by omega)
  rcases hn r off cap row cs₀ rfl hmem hc with ⟨hne,hcap⟩ | ⟨rfl,cs₁,rfl⟩
  ·refine ⟨.slice (some ⟨r,off+l * sz,none⟩) (u - l) (cap - l),.inr ⟨r,_,_,row,cs₀,rfl,hmem,hc,hcut'⟩,fun h H=>?_⟩
   have hcb:Nat.beq cap openCap=false:=beq_false (by omega)
   have h1:Nat.ble u (farB n cap)=true:=by unfold farB; rw [hcb]; exact Nat.ble_eq_true_of_le (Nat.le_trans hu hcap)
   have h3:rowOk h e (some ⟨r,off,none⟩) cap=true:=by unfold rowOk; rw [hcb]; exact Nat.ble_eq_true_of_le (by omega)
   simp only [opB,ho,hx,hlo,hhi,hm,sliceB,ht,bu,bl,hz,h1,h2,h3,Bool.true_and,moved,hcb,ret]
  ·refine ⟨.slice (some ⟨r,off+l * sz,none⟩) (u - l) openCap,.inr ⟨r,_,_,_,cs₀,rfl,hmem,hc,hcut'⟩,fun h H=>?_⟩
   have hcb:Nat.beq openCap openCap=true:=beq_true rfl
   have h1:Nat.ble u (farB n openCap)=true:=by unfold farB; rw [hcb]; exact Nat.ble_eq_true_of_le hu
   have hg:getRow h r=some (e,cs₁):=by unfold getRow; rw [H.get _ hmem]
   have h3:rowOk h e (some ⟨r,off,none⟩) openCap=true:=by unfold rowOk; rw [hcb]; simp only [hg,beq_true rfl]
   simp only [opB,ho,hx,hlo,hhi,hm,sliceB,ht,bu,bl,hz,h1,h2,h3,Bool.true_and,moved,hcb,ret]
def keepJ (live:List Nat):Nat->Slots->Slots
 | _,[]=>[]
 | i,x::xs=>(match hasNat live i with | true=>x | false=>.chan none)::keepJ live (i+1) xs
theorem keepJ_rel {ρ:Env} {live:List Nat}:∀ {a us:Slots} {i:Nat},LRel ρ a us->LRel ρ (keepJ live i a) us
 | _,_,_,.nil=>.nil
 | _,_,i,.cons h hs=>by
  simp only [keepJ]
  refine .cons ?_ (keepJ_rel hs)
  split
  ·exact h
  ·exact .any _
theorem LS.junk {rd:Option Nat} {x:Code} {a a₁:Slots} {L:RL} {R:AExit->Slots->RL->Prop} (live:List Nat) (e:keepJ live 0 a=a₁) (k:LSr rd P x a₁ L R):LSr rd P x a L R:=by
 subst e
 exact fun h H n₀ ro ρ act w Q hrd hr hd HR hQ=>k h H n₀ ro ρ act w Q hrd (keepJ_rel hr) hd HR hQ
theorem LS.mid {rd:Option Nat} {x y:Code} {a:Slots} {L:RL} {R R':AExit->Slots->RL->Prop} (live:List Nat) (M:Slots->RL->Prop) (hx:LSr rd P x a L (ThenS (fun a' L'=>M (keepJ live 0 a') L') R)) (hy:∀ a L,M a L->LSr rd P y a L R'):LSr rd P x a L (ThenS (fun a L=>LSr rd P y a L R') R) :=
 hx.mono fun e a' L' r=>by
  cases e with
  | normal=>exact LS.junk live rfl (hy _ _ r)
  | exit id=>exact r
  | ret=>exact r
theorem LS.loopJ {rd:Option Nat} {x:Code} {a a₁:Slots} {L:RL} {R:AExit->Slots->RL->Prop} (live:List Nat) (I:Nat->Slots->RL->Prop) {n:Nat} (e:keepJ live 0 a=a₁) (h₀:I n a₁ L) (round:∀ n a L,I n a L->LSr rd P x a L (ThenS (fun a' L'=>∃ m,m < n/\I m (keepJ live 0 a') L') R)):LSr rd P (.loop x) a L R:=by
 refine LS.junk live e ?_
 intro h H n₀ ro ρ act w Q hrd hr hd HR hQ
 let J:Nat->Act->World->Prop:=fun n act₁ w₁=>∃ a₁ L₁ h₁ ρ₁,I n a₁ L₁/\Has h₁ L₁/\LRel ρ₁ a₁ act₁.tmps.toList/\Marks n₀ ρ₁ h₁ w₁ act₁.defers/\HRel P ρ₁ h₁ w₁/\Turn ρ h w ρ₁ h₁ w₁
 refine wpIn_loop_n J (n:=n) ⟨a₁,L,h,ρ,h₀,H,hr,hd,HR,Turn.refl _ _ _⟩ ?_
 rintro n act₁ w₁ ⟨a₁,L₁,h₁,ρ₁,hI,H₁,hr₁,hd₁,HR₁,T₁⟩
 refine round n a₁ L₁ hI h₁ H₁ n₀ ro _ _ _ _ (hrd.mono T₁.le) hr₁ hd₁ HR₁ fun e a₂ h₂ ρ₂ act₂ w₂ k hr₂ hd₂ HR₂ T₂=>?_
 obtain ⟨L₂,k,H₂⟩:=k
 cases e with
 | normal =>
  obtain ⟨m,hm,hI₂⟩:=k
  exact ⟨m,hm,_,L₂,h₂,ρ₂,hI₂,H₂,keepJ_rel hr₂,hd₂,HR₂,T₁.trans T₂⟩
 | exit id=>exact hQ (.exit id) a₂ h₂ ρ₂ act₂ w₂ ⟨L₂,k,H₂⟩ hr₂ hd₂ HR₂ (T₁.trans T₂)
 | ret=>exact hQ .ret a₂ h₂ ρ₂ act₂ w₂ ⟨L₂,k,H₂⟩ hr₂ hd₂ HR₂ (T₁.trans T₂)
theorem VRel.plain_eq {ρ:Env} {v u:Value} (h:VRel ρ v u) (hp:Am.plain v=true):u=v:=by
 cases h with
 | agg h=>rw [Array.toList_inj.1 (h.flat_eq hp)]
 | tuple h=>rw [Array.toList_inj.1 (h.flat_eq hp)]
 | iface h=>rw [h.flat_eq hp]
 | ptr _=>simp [Am.plain,flat] at hp
 | map _=>simp [Am.plain,flat] at hp
 | func _ _ _=>simp [Am.plain,flat] at hp
 | yield _=>simp [Am.plain,flat] at hp
 | slice _ _ _=>simp [Am.plain,flat] at hp
 | any _=>simp [Am.plain,flat] at hp
 | _=>rfl
def allPlain:List Value->Bool
 | []=>true
 | v::vs=>Am.plain v && allPlain vs
theorem LRel.plain_eq {ρ:Env}:∀ {vs us:List Value},LRel ρ vs us->allPlain vs=true->us=vs
 | _,_,.nil,_=>rfl
 | _,_,.cons a b,h=>by
  simp only [allPlain,Bool.and_eq_true] at h
  rw [VRel.plain_eq a h.1,LRel.plain_eq b h.2]
theorem LRel.of_plain {ρ:Env}:∀ {vs:List Value},allPlain vs=true->LRel ρ vs vs
 | [],_=>.nil
 | v::vs,h=>by
  simp only [allPlain,Bool.and_eq_true] at h
  exact .cons (.of_plain h.1) (LRel.of_plain h.2)
theorem Has.empty:Has AW.empty []:=⟨fun p hp=>(by cases hp),List.nodup_nil,fun p hp=>(by cases hp),by decide⟩
theorem CS.less {f:FuncId} {args:List Value} {L:RL} {R R':Value->RL->Prop} (c:CS P f args L R) (hr:∀ v L',R v L'->∃ L'',Sub L'' L'/\R' v L''):CS P f args L R' :=
 fun h H=>(c h H).mono fun v h' ⟨L',r,H'⟩=>let ⟨L'',s,r'⟩:=hr v L' r; ⟨L'',r',s.has H'⟩
theorem res_cell (i:Nat) {x r off:Nat} {t:TypeId} {row:ARow} {cs:List Value} {v:Value} (hx:a[x]?=some (.pointer (some ⟨r,off,none⟩))) (hL:L[i]?=some (r,row)) (hc:rdRow row=some cs) (hv:partB P t cs off=some v):∀ h,Has h L->resultsB P a h [.cell x t]=some [v]:=by
 intro h H
 simp only [resultsB,hx,loadB,H.read hL hc,hv]
end
end Go.Am
namespace Go.Am
section
variable {P:Program} {ρ:Env} {h:AW} {w:World} {L:RL}
theorem enter1 (HR:HRel P ρ h w) (ro:∀ r row,h.get r=some row->row.own=false) (H:Has h L) (l:Loc) (cs:List Value) (hb:l.block < w.heap.size)
  (hc:∀ i v,cs[i]?=some v->w.cell? ⟨l.block,l.base+i,none⟩=some v/\flat v=true) :
  ∃ r ρ' h',ρ.le ρ'/\ρ' r=some l/\HRel P ρ' h' w/\(∀ r row,h'.get r=some row->row.own=false)/\Has h' ((r,.ro cs)::L):=by
 obtain ⟨h',e⟩:=h.new_some (.ro cs)
 obtain ⟨_,hg,hn,hs⟩:=new_eq e
 have hnone:ρ h.next=none:=HR.fresh0
 have le:=upd_le (l:=l) hnone
 have ro':∀ r row,h'.get r=some row->row.own=false:=fun r row hr=>by
  rw [hg] at hr
  split at hr
  ·simp at hr; subst hr; rfl
  ·exact ro r row hr
 refine ⟨h.next,upd ρ h.next l,h',le,by simp [upd],⟨fun r row hr=>?_,fun r r' row row' l₁ l₂ h1 h2 _ _ _ ho=>?_,fresh_upd HR rfl hn hs,by rw [hs]; exact HR.step⟩,ro',H.new e⟩
 ·rw [hg] at hr
  split at hr
  ·simp at hr; subst hr; subst_vars
   exact ⟨l,by simp [upd],hb,fun i v hv=>⟨v,(hc i v hv).1,.of_flat (hc i v hv).2⟩⟩
  ·obtain ⟨l',hl',hr'⟩:=HR.loc r row hr
   exact ⟨l',le _ _ hl',hr'.keep le rfl⟩
 ·rw [ro' r row h1,ro' r' row' h2] at ho; simp at ho
def RO (sz:Nat) (L:RL) (v:Value) (n:Nat) (cs:List Value):Prop :=
 (v=.slice none 0 0/\n=0/\cs=[])∨∃ r cap,v=.slice (some ⟨r,0,none⟩) n cap/\n<=cap/\cap < openCap/\(r,.ro cs)∈L/\cs.length=n * sz
theorem RO.sv {sz n:Nat} {v:Value} {cs:List Value} (h:RO sz L v n cs):SV sz L v n cs:=by
 rcases h with h | ⟨r,cap,h1,_,_,h4,h5⟩
 ·exact .inl h
 ·exact .inr ⟨r,0,cap,_,cs,h1,h4,rfl,cut_all h5⟩
theorem RO.mono {sz n:Nat} {v:Value} {cs:List Value} {L':RL} (h:RO sz L v n cs) (hm:∀ p,p∈L->p∈L'):RO sz L' v n cs:=by
 rcases h with h | ⟨r,cap,h1,h2,h3,h4,h5⟩
 ·exact .inl h
 ·exact .inr ⟨r,cap,h1,h2,h3,hm _ h4,h5⟩
theorem enter_slice (HR:HRel P ρ h w) (ro:∀ r row,h.get r=some row->row.own=false) (H:Has h L) {A:Option Addr} {n c sz:Nat} {cs:List Value} (hA:(A=none/\n=0/\c=0)∨∃ a,A=some a/\a.spot=none/\a.block < w.heap.size/\n<=c/\c < openCap)
  (hl:cs.length=n * sz) (hf:allFlat cs=true) (hc:0 < n->∃ a,A=some a/\∀ j u,cs[j]?=some u->w.cell? (a.add j)=some u) :
  ∃ v ρ' h' L',ρ.le ρ'/\VRel ρ' v (.slice A n c)/\HRel P ρ' h' w/\(∀ r row,h'.get r=some row->row.own=false)/\Has h' L'/\RO sz L' v n cs/\(∀ p,p∈L->p∈L'):=by
 rcases hA with ⟨rfl,rfl,rfl⟩ | ⟨a,rfl,hs,hb,hnc,hco⟩
 ·exact ⟨.slice none 0 0,ρ,h,L,Env.le_refl _,.sliceNil,HR,ro,H,.inl ⟨rfl,rfl,List.eq_nil_of_length_eq_zero (by simpa using hl)⟩,fun _ hp=>hp⟩
 ·obtain ⟨bl,off,spot⟩:=a
  simp only at hs
  subst hs
  have hfl:∀ (i:Nat) (v:Value),cs[i]?=some v->flat v=true:=by
   clear hl hc
   induction cs with
   | nil=>intro i v hv; simp at hv
   | cons x xs ih =>
    simp only [allFlat] at hf
    split at hf
    ·rename_i hx
     intro i v hv
     cases i with
     | zero=>simp at hv; subst hv; exact hx
     | succ i=>simp at hv; exact ih hf i v hv
    ·cases hf
  obtain ⟨r,ρ',h',le,hr,HR',ro',H'⟩:=enter1 HR ro H ⟨bl,off,0,0⟩ cs hb fun i v hv=>by
   have hn:0 < n:=by
    rcases Nat.eq_zero_or_pos n with h0 | h0
    ·subst h0
     have:cs=[]:=List.eq_nil_of_length_eq_zero (by simpa using hl)
     subst this; simp at hv
    ·exact h0
   obtain ⟨a,ha,hcell⟩:=hc hn
   simp at ha; subst ha
   have:=hcell i v hv
   rw [add_eq] at this
   exact ⟨this,hfl i v hv⟩
  refine ⟨.slice (some ⟨r,0,none⟩) n c,ρ',h',_,le,?_,HR',ro',H',.inr ⟨r,c,rfl,hnc,hco,by simp,hl⟩,fun p hp=>List.mem_cons_of_mem _ hp⟩
  exact .slice hnc (fun _=>rfl) fun _=>⟨_,hr,rfl,fun hh=>by omega⟩
theorem enter0 (w:World):HRel P (fun _=>none) AW.empty w/\(∀ r row,AW.empty.get r=some row->row.own=false)/\Has AW.empty [] :=
 ⟨empty_rel w,fun r row hr=>(by cases hr),Has.empty⟩
theorem calls_true {f:FuncId} {args us:List Value} (c:CS P f args L fun v _=>v=.bool true) (hr:LRel ρ args us) (HR:HRel P ρ h w) (ro:∀ r row,h.get r=some row->row.own=false) (H:Has h L) :
  Calls P f ⟨us⟩ w fun e w'=>e=.returned (.bool true)/\RowKit.Below w.heap.size w w':=by
 refine ((c h H).2 ρ us w hr HR).mono ?_
 rintro en w' ⟨v,h',u,ρ',rfl,⟨L',rfl,_⟩,hv,H',T⟩
 cases hv
 exact ⟨rfl,T.os,T.tape,T.output,T.size,fun k hk=>T.keep k hk fun r row l hr' ho=>by rw [ro r row hr'] at ho; cases ho⟩
end
theorem okSlice {P:Program} {w:World} {r:Reach} {base:Nat} {t e:TypeId} {A:Option Addr} {n c:Nat} (ht:P.underlying t=some (.slice e)) (h:Value.okWide P w r base t (.slice A n c)):(A=none/\n=0/\c=0)∨∃ a,A=some a/\a.spot=none/\a.block < w.heap.size/\n<=c/\c < openCap:=by
 simp only [Value.okWide,ht,Cell.okWide] at h
 cases A with
 | none =>
  simp only [Cell.ok,ht] at h
  split at h <;> simp_all
 | some a =>
  simp only [Cell.ok,ht] at h
  obtain ⟨h1,h2,_,h3,row,cells,h4,_⟩:=h
  refine .inr ⟨a,rfl,h3,?_,h1,?_⟩
  ·unfold World.shape? at h4
   cases hb:w.heap[a.block]? with
   | none=>simp [hb] at h4
   | some o=>exact (Array.getElem?_eq_some_iff.1 hb).1
  ·have:IntKind.i64.max=9223372036854775807:=by decide
   rw [this] at h2
   unfold openCap; omega
end Go.Am
namespace Go.Am
section
variable {P:Program} {o:Oper} {a:Slots} {L L₁:RL} {x y z:Operand} {t:TypeId}
theorem e_makeMap {r:Option Operand} {hint:Option Value} (ho:o.op=.makeMap t r) (hr:optEv a r=some hint) (hm:makeMapB P t hint=true) :
  ∀ h,Has h L->∃ q h₁,opB P a o h=some (.val (.map (some q)) h₁)/\Has h₁ ((q,.map [] 0)::L):=by
 intro h H
 obtain ⟨h₁,e₁⟩:=h.new_some (.map [] 0)
 exact ⟨h.next,h₁,by simp only [opB,ho,hr,hm,e₁,retRow],H.new e₁⟩
theorem e_lookup (i:Nat) {k v:Value} {ok:Bool} {r clock:Nat} {es:List MapEntry} {kt et:TypeId} (ho:o.op=.lookup t x y ok) (hx:aev a x=some (.map (some r))) (hy:aev a y=some k) (ht:P.underlying t=some (.map kt et)) (hk:isKeyB P kt k=true)
  (hL:L[i]?=some (r,.map es clock)) (hf:(match findB k es 0 with | some (some (_,v))=>some (okTuple ok v true) | some none=>(match zeroVB P et with | some z=>some (okTuple ok z false) | none=>none) | none=>none)=some v) :
  ∀ h,Has h L->opB P a o h=some (.val v h):=by
 intro h H
 have hg:=H.at hL
 have e:lookupB P t (.map (some r)) k ok h=some v:=by
  unfold lookupB entriesB
  simp only [ht,hk,hg]
  exact hf
 simp only [opB,ho,hx,hy,e,ret]
theorem e_delete (i:Nat) {c:Call} {k:Value} {r clock:Nat} {es es2:List MapEntry} {tm kt et:TypeId} (ho:o.op=.call c) (hc:c.callee=.builtin .delete) (ha:evs a c.args.toList=some [.map (some r),k]) (ht:c.argTypes[0]?=some tm) (hu:P.underlying tm=some (.map kt et)) (hk:isKeyB P kt k=true)
  (hL:L[i]?=some (r,.map es clock)) (hf:(match findB k es 0 with | some (some (j,_))=>some (dropE es j) | some none=>some es | none=>none)=some es2) (hset:setL L i (r,.map es2 clock)=some L₁) :
  ∀ h,Has h L->∃ h₁,opB P a o h=some (.val (.tuple #[]) h₁)/\Has h₁ L₁:=by
 intro h H
 have hg:=H.at hL
 obtain ⟨h₁,e₁⟩:=h.put_some r (some (.map es2 clock))
 have:=setL_eq hset
 subst this
 refine ⟨h₁,?_,H.put hL e₁⟩
 have e:deleteB P c.argTypes [.map (some r),k] h=some (.tuple #[],h₁):=by
  unfold deleteB
  simp only [ht,hu,hk,hg]
  cases hfb:findB k es 0 with
  | none=>rw [hfb] at hf; cases hf
  | some w =>
   rw [hfb] at hf
   cases w with
   | none =>
    simp only [Option.some.injEq] at hf
    subst hf
    simp only [e₁]
   | some p =>
    obtain ⟨j,u⟩:=p
    simp only [Option.some.injEq] at hf
    subst hf
    simp only [e₁]
 simp only [opB,ho,ha,callOpB,hc,e,ret2]
theorem e_mapUpdate (i:Nat) {k v:Value} {r clock clock2:Nat} {es es2:List MapEntry} {kt et:TypeId} (ho:o.op=.mapUpdate t x y z) (hx:aev a x=some (.map (some r))) (hy:aev a y=some k) (hz:aev a z=some v) (ht:P.underlying t=some (.map kt et)) (hk:isKeyB P kt k=true)
  (hL:L[i]?=some (r,.map es clock)) (hf:(match findB k es 0 with | some (some (j,_))=>some (setE k v es j,clock) | some none=>some (addE ⟨k,v,clock⟩ es,clock+1) | none=>none)=some (es2,clock2)) (hset:setL L i (r,.map es2 clock2)=some L₁) :
  ∀ h,Has h L->∃ h₁,opB P a o h=some (.val undef h₁)/\Has h₁ L₁:=by
 intro h H
 have hg:=H.at hL
 obtain ⟨h₁,e₁⟩:=h.put_some r (some (.map es2 clock2))
 have:=setL_eq hset
 subst this
 refine ⟨h₁,?_,H.put hL e₁⟩
 have e:mapUpdateB P t (.map (some r)) k v h=some h₁:=by
  unfold mapUpdateB
  simp only [ht,hk,hg]
  cases hfb:findB k es 0 with
  | none=>rw [hfb] at hf; cases hf
  | some w =>
   rw [hfb] at hf
   cases w with
   | none =>
    simp only [Option.some.injEq,Prod.mk.injEq] at hf
    obtain ⟨rfl,rfl⟩:=hf
    exact e₁
   | some p =>
    obtain ⟨j,u⟩:=p
    simp only [Option.some.injEq,Prod.mk.injEq] at hf
    obtain ⟨rfl,rfl⟩:=hf
    exact e₁
 simp only [opB,ho,hx,hy,hz,e]
end
end Go.Am
end
section
namespace Go.Am
open Go.MapKept
section
variable {P:Program}
def YQ (P:Program) (r:Nat) (vs:List Value) (h:AW) (R:Value->AW->Prop):Prop :=
 ∀ ρ us w l,LRel ρ vs us->HRel P ρ h w->ρ r=some l →
  YieldAt (wideAt none) 0 P l.block ⟨us⟩ w fun e w'=>∃ v h' u ρ',e=.returned u/\R v h'/\VRel ρ' v u/\HRel P ρ' h' w'/\Turn ρ h w ρ' h' w'
theorem YQ.mono {r:Nat} {vs:List Value} {h:AW} {R R':Value->AW->Prop} (c:YQ P r vs h R) (hr:∀ v h',R v h'->R' v h'):YQ P r vs h R':=fun ρ us w l a b e=>by
 obtain ⟨fn,tmps,assign,body,h1,h2⟩:=c ρ us w l a b e
 exact ⟨fn,tmps,assign,body,h1,h2.mono fun e w' ⟨v,h',u,ρ',e1,e2,e3⟩=>⟨v,h',u,ρ',e1,hr _ _ e2,e3⟩⟩
theorem OQ.yield {ops rest:List Oper} {o:Oper} {c:Call} {f:Operand} {a:Slots} {h:AW} {K:Slots->AW->Prop} {r:Nat} {vs:List Value} (hw:wantedB ops o a=true) (ho:o.op=.call c) (hc:c.callee=.value f) (hf:aev a f=some (.func (.yield r) #[] #[])) (ha:evs a c.args.toList=some vs)
  (hrow:∃ p,h.get r=some (.loop p)) (hy:YQ P r vs h fun v h₁=>∃ a₁,putAt a o.dst v=some a₁/\OQ P ops rest a₁ h₁ K):OQ P ops (o::rest) a h K:=by
 intro ro ds opsA i ρ act w Q hops hd hr hdf H hQ
 obtain ⟨hoi,hrest⟩:=drop_at hops hd
 simp only [List.length_cons,List.range'_succ,wpOpsIn,hoi]
 rw [← wantedB_eq hr (by rw [hops]; exact sure_of_wanted hw),hops,hw,if_pos rfl]
 obtain ⟨p,hp⟩:=hrow
 obtain ⟨l,hl,_⟩:=H.loc r _ hp
 have hfr:=aev_rel hr hf
 have hargs:=evs_rel hr ha
 generalize hev:act.eval f=fv at hfr
 cases hfr with
 | @yield _ l' hl' =>
  rw [hl] at hl'; simp only [Option.some.injEq] at hl'; subst hl'
  obtain ⟨fn,tmps,assign,body,hrun,hround⟩:=hy ρ _ w l hargs H hl
  have hex:(execOp act.eval o).run P w=.ok (.round l.block fn tmps assign body) w:=by
   simp only [execOp,ho,resolve,hc,hev,Deferred.ofValue,Sem.run_bind,Sem.run_pure,Result.andThen_ok,invoke]
   rw [← hrun]
   congr 2
   apply Array.ext'
   simp
  refine ⟨fun _ _=>trivial,?_⟩
  rw [Oper.semAt_eq _ _ _ (fun c' hc'=>by rw [ho] at hc'; cases hc'),hex]
  refine ⟨fun hh=>(by cases hh),hround.mono ?_⟩
  rintro en w₁ ⟨v,h₁,u,ρ₁,rfl,⟨a₁,ep,k⟩,hv,H₁,T₁⟩
  exact k ro _ _ _ _ _ _ Q hops hrest (putAt_rel ep (hr.mono T₁.le) hv) (by rw [put_defers]; exact hdf) H₁ (fun a' h' ρ' act' w' kk a b c d=>hQ a' h' ρ' act' w' kk a b c (T₁.trans d))
 | @func _ _ _ _ _ hpf=>cases hpf
def putAll:Slots->List Nat->List Value->Option Slots
 | a,[],[]=>some a
 | a,t::ts,v::vs=>match setAt a t v with
  | some a'=>putAll a' ts vs
  | none=>none
 | _,_,_=>none
theorem putAll_rel {ρ:Env}:∀ {ts:List Nat} {vs us:List Value} {a a':Slots} {tmps:Array Value},putAll a ts vs=some a'->LRel ρ a tmps.toList->LRel ρ vs us->ts.length=us.length/\LRel ρ a' ((ts.zip us).foldl (fun t (p,v)=>t.setIfInBounds p v) tmps).toList
 | [],[],us,a,a',tmps,e,h,hv=>by cases hv; simp [putAll] at e; subst e; exact ⟨rfl,h⟩
 | [],_::_,_,_,_,_,e,_,_=>by simp [putAll] at e
 | _::_,[],_,_,_,_,e,_,_=>by simp [putAll] at e
 | t::ts,v::vs,us,a,a',tmps,e,h,hv=>by
  simp only [putAll] at e
  split at e
  case h_2=>cases e
  rename_i a₁ e₁
  cases hv with
  | @cons _ u _ us hv hvs =>
   have h1:LRel ρ a₁ (tmps.setIfInBounds t u).toList:=by
    rw [Array.toList_setIfInBounds]; exact setAt_rel e₁ h hv
   obtain ⟨hl,hr⟩:=putAll_rel (ts:=ts) e h1 hvs
   exact ⟨by simp [hl],by simpa using hr⟩
def LP.busy (p:LP):LP:={ p with state:=.busy }
def LP.left (p:LP):AExit->LP
 | .normal=>{ p with state:=.ready,pending:=none }
 | .ret=>{ p with state:=.done,pending:=some .ret }
 | .exit id=>{ p with state:=.done,pending:=some (.exit id) }
def AExit.goesOn:AExit->Bool
 | .normal=>true
 | _=>false
theorem YQ.mk {r:Nat} {vs:List Value} {h:AW} {R:Value->AW->Prop} {p:LP} {a₀:Slots} (hp:h.get r=some (.loop p)) (hst:p.state=.ready) (ha:putAll p.slots p.params vs=some a₀)
  (hx:LQ (some r) P p.assign a₀ h fun e a₁ h₁=>e=.normal/\h₁.get r=some (.loop p)/\∃ h₂,h₁.put r (some (.loop p.busy))=some h₂ /\
   LQ (some r) P p.body a₁ h₂ fun e a₃ h₃=>h₃.get r=some (.loop p.busy)/\∃ h₄,h₃.put r (some (.loop (p.left e)))=some h₄/\R (.bool e.goesOn) h₄):YQ P r vs h R:=by
 intro ρ us w l hus H hl
 obtain ⟨l',hl',fn,tmps,D,hrec,htm⟩:=H.loc r _ hp
 rw [hl] at hl'; simp only [Option.some.injEq] at hl'; subst hl'
 obtain ⟨hlen,hrel⟩:=putAll_rel ha htm hus
 refine ⟨fn,_,p.assign,p.body,run_yield hrec (by simpa using hlen.symm),?_⟩
 refine roundIn_of_wpIn (F:=wideAt none) trivial ?_
 have hrel':LRel ρ a₀ (((⟨p.params⟩:Array Nat).zip (⟨us⟩:Array Value)).foldl (fun t (q:Nat × Value)=>t.setIfInBounds q.1 q.2) tmps).toList:=by
  have e:((⟨p.params⟩:Array Nat).zip (⟨us⟩:Array Value)).foldl (fun t (q:Nat × Value)=>t.setIfInBounds q.1 q.2) tmps=(p.params.zip us).foldl (fun t (q:Nat × Value)=>t.setIfInBounds q.1 q.2) tmps:=by
   rw [← Array.foldl_toList]; simp
  rw [e]; exact hrel
 refine hx w.heap.size (some l.block) ρ _ w _ (.some hl) hrel' (Marks.nil _ _ _) H ?_
 rintro e a₁ h₁ ρ₁ act₁ w₁ ⟨rfl,hg₁,h₂,hput,hbody⟩ hr₁ hd₁ H₁ T₁
 obtain ⟨l₁,hl₁,fn₁,tmps₁,D₁,hrec₁,htm₁⟩:=H₁.loc r _ hg₁
 rw [T₁.le _ _ hl] at hl₁; simp only [Option.some.injEq] at hl₁; subst hl₁
 have hsame:({ state:=p.state,pending:=p.pending,fn:=fn₁,tmps:=tmps₁,params:=⟨p.params⟩,assign:=p.assign,body:=p.body,defers:=D₁ }:Loop).state=.ready:=hst
 refine ⟨_,run_beginRound hrec₁ hsame,?_⟩
 obtain ⟨H₂,T₂⟩:=H₁.writeRow (o1:=.loop { state:=.busy,pending:=p.pending,fn:=fn₁,tmps:=tmps₁,params:=⟨p.params⟩,assign:=p.assign,body:=p.body,defers:=D₁ }) (row1:=.loop p.busy) hg₁ rfl (T₁.le _ _ hl) hrec₁ hput
  ⟨fn₁,tmps₁,D₁,(heap_set hrec₁).1,htm₁⟩
 refine hbody w.heap.size (some l.block) ρ₁ act₁ _ _ (.some (T₁.le _ _ hl)) hr₁ (hd₁.turn T₂) H₂ ?_
 rintro e a₃ h₃ ρ₃ act₃ w₃ ⟨hg₃,h₄,hput₃,hR⟩ hr₃ hd₃ H₃ T₃
 have hl₃:=T₃.le _ _ (T₁.le _ _ hl)
 obtain ⟨l₃,hl₃',fn₃,tmps₃,D₃,hrec₃,htm₃⟩:=H₃.loc r _ hg₃
 rw [hl₃] at hl₃'; simp only [Option.some.injEq] at hl₃'; subst hl₃'
 have fin:∀ jump:Option Code,(p.left e)={ p with state:=if jump.isNone then .ready else .done,pending:=jump }->jump.isNone=e.goesOn->∃ v w',(Instr.endRound l.block jump).run P w₃=.ok v w' /\
   ∃ v₁ h' u ρ',Ending.returned v=.returned u/\R v₁ h'/\VRel ρ' v₁ u/\HRel P ρ' h' w'/\Turn ρ h w ρ' h' w':=by
  intro jump hj he
  refine ⟨_,_,run_endRound jump hrec₃,?_⟩
  obtain ⟨H₄,T₄⟩:=H₃.writeRow (o1:=.loop { state:=if jump.isNone then .ready else .done,pending:=jump,fn:=fn₃,tmps:=tmps₃,params:=⟨p.params⟩,assign:=p.assign,body:=p.body,defers:=D₃ }) (row1:=.loop (p.left e)) hg₃ rfl hl₃ hrec₃ hput₃
   (by rw [hj]; exact ⟨fn₃,tmps₃,D₃,(heap_set hrec₃).1,htm₃⟩)
  exact ⟨.bool e.goesOn,h₄,_,ρ₃,rfl,hR,by rw [he]; exact .bool _,H₄,T₁.trans (T₂.trans (T₃.trans T₄))⟩
 cases e with
 | normal=>exact fin none rfl rfl
 | ret=>exact fin (some .ret) rfl rfl
 | exit id=>exact fin (some (.exit id)) rfl rfl
theorem HRel.putRec {ρ:Env} {h:AW} {w:World} {D:Nat} {rc:Loop} (H:HRel P ρ h w) (hD:w.heap[D]?=some (.loop rc)) (ho:∀ r row l,h.get r=some row->row.own=true->ρ r=some l->l.block≠D) (o:Obj):HRel P ρ h (w.putObj D o):=by
 refine ⟨fun r row hr=>?_,H.inj,H.fresh,H.step⟩
 obtain ⟨l,hl,hrow⟩:=H.loc r row hr
 refine ⟨l,hl,?_⟩
 by_cases e:l.block=D
 ·cases hown:row.own with
  | true=>exact absurd e (ho r row l hr hown hl)
  | false =>
   cases row with
   | ro cs =>
    refine ⟨by rw [World.putObj_size]; exact hrow.1,fun i v hv=>?_⟩
    obtain ⟨u,hu,_⟩:=hrow.2 i v hv
    simp only [World.cell?,e,hD] at hu
    cases hu
   | _=>cases hown
 ·exact hrow.keep (Env.le_refl _) (World.putObj_heap_other e)
theorem HRel.laid {ρ:Env} {h:AW} {w:World} (H:HRel P ρ h w) (o:Obj):HRel P ρ h (w.alloc o)/\Turn ρ h w ρ h (w.alloc o):=by
 have old:∀ k,k < w.heap.size->(w.alloc o).heap[k]?=w.heap[k]?:=fun k hk=>by
  show (w.heap.push o)[k]?=_
  rw [Array.getElem?_push_lt hk,Array.getElem?_eq_getElem hk]
 refine ⟨⟨fun r row hr=>?_,H.inj,H.fresh,H.step⟩,⟨Env.le_refl _,rfl,rfl,rfl,by simp,fun r row l hr ho hl _=>⟨r,row,l,hr,ho,hl,rfl⟩,fun k hk _=>old k hk,fun _ _ e=>.inl e,⟨0,by simp⟩,rfl⟩⟩
 obtain ⟨l,hl,hrow⟩:=H.loc r row hr
 exact ⟨l,hl,hrow.keep (Env.le_refl _) (old _ hrow.lt)⟩
theorem Marks.push {n₀:Nat} {ρ:Env} {h:AW} {w:World} {ds:List Deferred} (M:Marks n₀ ρ h w ds) (H:HRel P ρ h w):Marks n₀ ρ h (w.alloc (.deferred (some []))) ({ target:=.collected w.heap.size,args:=#[] }::ds):=by
 have M':=M.turn (H.laid (.deferred (some []))).2
 refine ⟨M'.base,fun d hd=>?_,?_⟩
 ·rcases List.mem_cons.1 hd with rfl | hd
  ·refine ⟨w.heap.size,rfl,M.base,World.alloc_heap_new _ _,fun r row l hr _ hl e=>?_⟩
   obtain ⟨l',hl',hrow⟩:=H.loc r row hr
   rw [hl] at hl'; simp only [Option.some.injEq] at hl'; subst hl'
   have:=hrow.lt; omega
  ·exact M'.each d hd
 ·rw [List.map_cons,List.nodup_cons]
  refine ⟨fun hm=>?_,M.nd⟩
  obtain ⟨d,hd,e⟩:=List.mem_map.1 hm
  obtain ⟨D,h1,_,h3,_⟩:=M.each d hd
  rw [h1] at e
  simp only [Target.collected.injEq] at e
  have:=(Array.getElem?_eq_some_iff.1 h3).1
  omega
def LP.after (p:LP) (R:AExit->Slots->RL->Prop) (a:Slots) (L:RL):Prop :=
 p.state≠.busy/\match p.pending with
 | none=>R .normal a L
 | some .ret=>R .ret a L
 | some (.exit id)=>R (.exit id) a L
 | _=>False
def LP.start (a:Slots) (ps:List Nat) (assign body:Code):LP:={ state:=.ready,pending:=none,slots:=a,params:=ps,assign,body }
theorem LS.rangeFunc (hgo:noGo P=true) {g:Operand} {ps:Array Tmp} {assign body:Code} {a:Slots} {L:RL} {R:AExit->Slots->RL->Prop} {f:FuncId} {captured:List Value}
  (hg:aev a g=some (.func (.func f) #[] ⟨captured⟩))
  (hc:∀ r,CS P f (.func (.yield r) #[] #[]::captured) ((r,.loop (LP.start a ps.toList assign body))::L) fun v L₂=>∃ i p L₃,L₂[i]?=some (r,.loop p)/\dropL L₂ i=some L₃/\p.after R a L₃):LSr none P (.rangeFunc g ps assign body) a L R:=by
 intro h Hh n₀ ro ρ act w Q hrd hr hd H hQ
 cases hrd
 refine wpIn_rangeFunc fun fn _=>?_
 obtain ⟨h₁,e₁⟩:=h.new_some (.loop (LP.start a ps.toList assign body))
 obtain ⟨H₀,T₀⟩:=H.laid (.deferred (some []))
 have M₀:=hd.push H
 have hsz:(w.alloc (.deferred (some []))).heap.size=w.heap.size+1:=by simp
 obtain ⟨H₁,T₁⟩:=H₀.new_block (w':=(w.alloc (.deferred (some []))).alloc (.loop { state:=.ready,pending:=none,fn,tmps:=act.tmps,params:=ps,assign,body,defers:=w.heap.size })) (l:=⟨w.heap.size+1,0,0,0⟩) e₁ (by simp) rfl rfl rfl (by simp) (fun k hk=>by
   show ((w.alloc (.deferred (some []))).heap.push _)[k]?=_
   rw [Array.getElem?_push_lt hk,Array.getElem?_eq_getElem hk])
  ⟨fn,act.tmps,w.heap.size,by
   have:=World.alloc_heap_new (w.alloc (.deferred (some []))) (.loop { state:=.ready,pending:=none,fn,tmps:=act.tmps,params:=ps,assign,body,defers:=w.heap.size })
   rw [hsz] at this; exact this,hr.mono (upd_le (by exact H.fresh0))⟩
 have M₁:=M₀.turn T₁
 have hent:=run_enterLoop_outer (P:=P) (w:=w) fn act.tmps ps assign body
 generalize (w.alloc (.deferred (some []))).alloc (.loop { state:=.ready,pending:=none,fn,tmps:=act.tmps,params:=ps,assign,body,defers:=w.heap.size })=W₁ at H₁ T₁ M₁ hent
 have hcr:=aev_rel hr hg
 generalize hev:act.eval g=gv at hcr
 cases hcr with
 | @func _ _ b _ d _ hb hcap =>
  have hb0:b=#[]:=by
   cases b with | mk b=>cases hb; rfl
  subst hb0
  obtain ⟨⟨fd,cd,hfd,hbd⟩,hcalls⟩:=(hc h.next) h₁ (Hh.new e₁)
  refine ⟨w.heap.size+1,_,W₁,{ target:=.fn (.func f) d,args:=#[.func (.yield (w.heap.size+1)) #[] #[]] },W₁,f,#[.func (.yield (w.heap.size+1)) #[] #[]]++d,W₁,hent,?_,fun _ _=>trivial,(by simp only [invoke]; exact run_callFunc hgo hfd hbd _ _),fun hh=>(by cases hh),callsIn_at.2 ?_⟩
  ·simp only [resolve,hev]
   simp [Deferred.ofValue,Act.eval]
  ·have hus:LRel (upd ρ h.next ⟨w.heap.size+1,0,0,0⟩) (.func (.yield h.next) #[] #[]::captured) (#[Value.func (.yield (w.heap.size+1)) #[] #[]]++d).toList:=by
    rw [Array.toList_append]
    refine .cons (.yield (l:=⟨w.heap.size+1,0,0,0⟩) (by simp [upd])) (hcap.mono (upd_le (by exact H.fresh0)))
   refine (hcalls _ _ _ hus H₁).mono ?_
   rintro en w₂ ⟨v,h₂,u,ρ₂,rfl,⟨L₂,⟨i,p,L₃,hLi,hdr,hbusy,haft⟩,Hh₂⟩,hv,H₂,T₂⟩
   have hlr:ρ₂ h.next=some ⟨w.heap.size+1,0,0,0⟩:=T₂.le _ _ (by simp [upd])
   obtain ⟨l',hl',fn₂,tmps₂,D₂,hrec₂,htm₂⟩:=H₂.loc _ _ (Hh₂.at hLi)
   rw [hlr] at hl'; simp only [Option.some.injEq] at hl'; subst hl'
   obtain ⟨h₃,e₃⟩:=h₂.put_some h.next none
   obtain ⟨H₃,T₃⟩:=H₂.drop e₃
   have Hh₃:=Hh₂.drop hLi e₃
   rw [← dropL_eq hdr] at Hh₃
   refine ⟨p.pending,_,run_endLoop hrec₂ hbusy,?_⟩
   have hno:∀ r row l,h₃.get r=some row->row.own=true->ρ₂ r=some l->l.block≠w.heap.size+1:=fun r row l hr ho hl e=>by
    have hg3:=(put_eq e₃).1 r
    rw [hr] at hg3
    split at hg3
    ·cases hg3
    ·rename_i hne
     exact hne (H₂.inj r h.next row _ l _ hg3.symm (Hh₂.at hLi) hl hlr e (.inl ho))
   have H₄:=H₃.putRec hrec₂ hno (.loop { state:=.exhausted,pending:=p.pending,fn:=fn₂,tmps:=tmps₂,params:=⟨p.params⟩,assign:=p.assign,body:=p.body,defers:=D₂ })
   have T₀₃:=T₀.trans (T₁.trans (T₂.trans T₃))
   have T₄:=T₀₃.putMark (D:=w.heap.size+1) (by omega) (.loop { state:=.exhausted,pending:=p.pending,fn:=fn₂,tmps:=tmps₂,params:=⟨p.params⟩,assign:=p.assign,body:=p.body,defers:=D₂ })
   have M₃:=M₁.turn (T₂.trans T₃)
   have M₄:Marks n₀ ρ₂ h₃ (w₂.putObj (w.heap.size+1) (.loop { state:=.exhausted,pending:=p.pending,fn:=fn₂,tmps:=tmps₂,params:=⟨p.params⟩,assign:=p.assign,body:=p.body,defers:=D₂ })) ({ target:=.collected w.heap.size,args:=#[] }::act.defers):=by
    refine ⟨by rw [World.putObj_size]; exact M₃.base,fun d hd=>?_,M₃.nd⟩
    obtain ⟨D,h1,h2,h3,h4⟩:=M₃.each d hd
    refine ⟨D,h1,h2,(World.putObj_heap_other fun e=>?_).trans h3,h4⟩
    subst e
    rw [hrec₂] at h3; cases h3
   have hr':LRel ρ₂ a act.tmps.toList:=hr.mono T₄.le
   have out:∀ e,R e a L₃->Q e.exit' { act with defers:={ target:=.collected w.heap.size,args:=#[] }::act.defers } (w₂.putObj (w.heap.size+1) (.loop { state:=.exhausted,pending:=p.pending,fn:=fn₂,tmps:=tmps₂,params:=⟨p.params⟩,assign:=p.assign,body:=p.body,defers:=D₂ })):=fun e hR =>
    hQ e a h₃ ρ₂ _ _ ⟨L₃,hR,Hh₃⟩ hr' M₄ H₄ T₄
   revert haft out
   cases p.pending with
   | none=>exact fun haft out=>out .normal haft
   | some c =>
    cases c with
    | ret=>exact fun haft out=>wpIn_ret (out .ret haft)
    | exit id=>exact fun haft out=>wpIn_exit (out (.exit id) haft)
    | _=>exact fun haft _=>haft.elim
end
section
variable {P:Program}
def YS (P:Program) (r:Nat) (vs:List Value) (L:RL) (R:Value->RL->Prop):Prop:=∀ h,Has h L->YQ P r vs h fun v h'=>∃ L',R v L'/\Has h' L'
theorem YS.mono {r:Nat} {vs:List Value} {L:RL} {R R':Value->RL->Prop} (c:YS P r vs L R) (hr:∀ v L',R v L'->R' v L'):YS P r vs L R':=fun h H=>(c h H).mono fun v h' ⟨L',e,H'⟩=>⟨L',hr _ _ e,H'⟩
theorem YS.sub {r:Nat} {vs:List Value} {L L':RL} {R:Value->RL->Prop} (s:Sub L' L) (c:YS P r vs L' R):YS P r vs L R:=fun h H=>c h (s.has H)
theorem OS.yield {ops rest:List Oper} {o:Oper} {c:Call} {f:Operand} {a:Slots} {L:RL} {K:Slots->RL->Prop} {r:Nat} {vs:List Value} (hw:wantedB ops o a=true) (ho:o.op=.call c) (hc:c.callee=.value f) (hf:aev a f=some (.func (.yield r) #[] #[])) (ha:evs a c.args.toList=some vs)
  (hrow:∃ p,(r,.loop p)∈L) (hy:YS P r vs L fun v L₁=>∃ a₁,putAt a o.dst v=some a₁/\OS P ops rest a₁ L₁ K):OS P ops (o::rest) a L K :=
 fun h H=>OQ.yield hw ho hc hf ha (let ⟨p,hp⟩:=hrow; ⟨p,H.get _ hp⟩) ((hy h H).mono fun v h' ⟨L',⟨a₁,ep,k⟩,H'⟩=>⟨a₁,ep,k h' H'⟩)
theorem YS.mk (i:Nat) {r:Nat} {vs:List Value} {L:RL} {R:Value->RL->Prop} {p:LP} {a₀:Slots} (hi:L[i]?=some (r,.loop p)) (hst:p.state=.ready) (ha:putAll p.slots p.params vs=some a₀)
  (hx:LSr (some r) P p.assign a₀ L fun e a₁ L₁=>e=.normal/\∃ j L₂,L₁[j]?=some (r,.loop p)/\setL L₁ j (r,.loop p.busy)=some L₂ /\
   LSr (some r) P p.body a₁ L₂ fun e a₃ L₃=>∃ m L₄,L₃[m]?=some (r,.loop p.busy)/\setL L₃ m (r,.loop (p.left e))=some L₄/\R (.bool e.goesOn) L₄):YS P r vs L R:=fun h H=>by
 refine YQ.mk (H.at hi) hst ha ((hx h H).mono ?_)
 rintro e a₁ h₁ ⟨L₁,⟨rfl,j,L₂,hj,hset,k⟩,H₁⟩
 obtain ⟨h₂,e₂⟩:=h₁.put_some r (some (.loop p.busy))
 have H₂:=H₁.put hj e₂
 rw [← setL_eq hset] at H₂
 refine ⟨rfl,H₁.at hj,h₂,e₂,(k h₂ H₂).mono ?_⟩
 rintro e a₃ h₃ ⟨L₃,⟨m,L₄,hm,hset₃,hR⟩,H₃⟩
 obtain ⟨h₄,e₄⟩:=h₃.put_some r (some (.loop (p.left e)))
 have H₄:=H₃.put hm e₄
 rw [← setL_eq hset₃] at H₄
 exact ⟨H₃.at hm,h₄,e₄,L₄,hR,H₄⟩
end
end Go.Am
end
section
namespace Go.Am
section
variable {P:Program}
def OG (P:Program) (ops:List Oper) (ms:List Nat) (K:Slots->AW->Prop):Nat->List Nat->Dn->Slots->AW->Prop
 | 0,pre,_,a,h=>(∀ i o,ops[i]?=some o->i∈pre)/\K a h
 | n+1,pre,dn,a,h =>
  (∃ i o,ops[i]?=some o/\i ∉ pre/\(∀ j,ahead ms i j=true->j∈pre) /\
   ((skipB ops o a=true/\∃ a₁,putAt a o.dst undef=some a₁/\OG P ops ms K n (i::pre) dn a₁ h) ∨
    (wantedB ops o a=true/\∃ v a₁,StepQ P a o h v/\putAt a o.dst v=some a₁/\OG P ops ms K n (i::pre) ((i,a,v)::dn) a₁ h))) ∨
  ((∃ x o,ops[x]?=some o/\x ∉ pre)/\∃ W:List Nat,(∀ x o,ops[x]?=some o->x ∉ pre->x∈W∨∃ i,i∈W/\ahead ms x i=true) /\
   ∀ i,i∈W->∃ o,ops[i]?=some o/\i ∉ pre/\(∀ j,ahead ms i j=true->j∈pre)/\wantedB ops o a=true/\StepW P a o h fun v h₁=>∃ a₁,putAt a o.dst v=some a₁ /\
    (∀ e,e∈dn->ahead ms i e.1=false->∀ p,ops[e.1]?=some p->StepQ P e.2.1 p h₁ e.2.2)/\OG P ops ms K n (i::pre) dn a₁ h₁)
structure Mo (P:Program) (ops:List Oper) (ms:List Nat) (K:Slots->AW->Prop) (a₀:Slots) (S:Nat->Prop) (h:AW) (n:Nat) (pre:List Nat) (dn:Dn) (a:Slots) (val:Nat->Value):Prop where
 od:OG P ops ms K n pre dn a h
 len:a.length=a₀.length
 slot:∀ j o d,j∈pre->ops[j]?=some o->o.dst=some d->a[d]?=some (val j)
 slot0:∀ t,(∀ j o,j∈pre->ops[j]?=some o->o.dst≠some t)->a[t]?=a₀[t]?
 out:∀ j,j ∉ pre->¬ S j
 closed:∀ p,p∈pre->∀ j,ahead ms p j=true->j∈pre
 pend:∀ j o,j∈pre->¬ S j->ops[j]?=some o->∃ aj,aj.length=a₀.length /\
  (∀ t,t∈looksB ops o->(∀ q oq,ops[q]?=some oq->oq.dst=some t->ahead ms j q=true->aj[t]?=some (val q))/\((∀ q oq,ops[q]?=some oq->oq.dst=some t->ahead ms j q=false)->aj[t]?=a₀[t]?)) /\
  ((skipB ops o aj=true/\val j=undef)∨(wantedB ops o aj=true/\(j,aj,val j)∈dn/\StepQ P aj o h (val j)))
structure Ord3 (ops:List Oper) (ms:List Nat):Prop where
 once:Once ops
 back:∀ i o,ops[i]?=some o->∀ j,ahead ms i j=true->j < i
 sorted:∀ i o j q d,ops[i]?=some o->ops[j]?=some q->q.dst=some d->d∈looksB ops o->j≠i->(j < i->ahead ms i j=true)/\(i < j->ahead ms j i=true)
theorem ord3_of {ops:List Oper} {ms:List Nat} (hm:masksB ops []=some ms) (hok:((onceB (dstsB ops) && backB ops 0) && allSorted ms ops ops 0)=true):Ord3 ops ms/\backB ops 0=true:=by
 simp only [Bool.and_eq_true] at hok
 obtain ⟨⟨hon,hback⟩,hsort⟩:=hok
 refine ⟨⟨once_spec hon,fun i o ho=>closed_ahead hm hback (S:=fun j=>j < i) (fun j q hj hq e he hbe=>by have:=backB_spec hback j q hq e he hbe; omega) i o ho (fun e he hbe=>by have:=backB_spec hback i o ho e he hbe; omega),fun i o j q d hi hj hd hl hne=>?_⟩,hback⟩
 have:=allSorted_spec hsort i o hi j q d hj hd hl (by omega)
 simpa using this
section
variable {ops:List Oper} {ms:List Nat} {K:Slots->AW->Prop} {a₀:Slots} {S:Nat->Prop} {h:AW}
theorem Mo.step (hO:Ord3 ops ms) {i n m:Nat} {o:Oper} {pre:List Nat} {dn dn':Dn} {a a₁:Slots} {val:Nat->Value} {v:Value} {h':AW} {S':Nat->Prop} (M:Mo P ops ms K a₀ S h m pre dn a val)
  (hi:ops[i]?=some o) (hni:i ∉ pre) (hbe:∀ j,ahead ms i j=true->j∈pre) (ep:putAt a o.dst v=some a₁) (od:OG P ops ms K n (i::pre) dn' a₁ h') (hdn:∀ e,e∈dn->e∈dn') (hS:∀ j,j≠i->(S' j↔S j))
  (hold:∀ j aj u p,¬ S j->(j,aj,u)∈dn->ops[j]?=some p->StepQ P aj p h u->StepQ P aj p h' u)
  (here:¬ S' i->(skipB ops o a=true/\v=undef)∨(wantedB ops o a=true/\(i,a,v)∈dn'/\StepQ P a o h' v)) :
  Mo P ops ms K a₀ S' h' n (i::pre) dn' a₁ fun j=>if j=i then v else val j:=by
 obtain ⟨hal,had,hag⟩:=putAt_get ep
 have hpre:∀ j,j∈pre->j≠i:=fun j hm hh=>by subst hh; exact hni hm
 refine ⟨od,hal.trans M.len,?_,?_,?_,?_,?_⟩
 ·rintro j p d hm hj hd
  rw [hag]
  by_cases hji:j=i
  ·subst hji; rw [hi] at hj; simp at hj; subst hj; simp [hd]
  ·rw [if_neg hji]
   have hm':j∈pre:=by simpa [hji] using hm
   rw [if_neg (fun hh=>hji (hO.once j i p o d hj hi hd hh))]
   exact M.slot j p d hm' hj hd
 ·intro t ht
  rw [hag,if_neg (ht i o (by simp) hi)]
  exact M.slot0 t fun j p hm hj=>ht j p (by simp [hm]) hj
 ·intro j hm hs
  simp at hm
  exact M.out j hm.2 ((hS j hm.1).1 hs)
 ·intro p hp j hj
  rcases List.mem_cons.1 hp with rfl | hp
  ·exact List.mem_cons_of_mem _ (hbe j hj)
  ·exact List.mem_cons_of_mem _ (M.closed p hp j hj)
 ·intro j p hm hs hj
  by_cases hji:j=i
  ·subst hji
   rw [hi] at hj; simp at hj; subst hj
   have hlt:∀ q,ahead ms j q=true->q≠j:=fun q hq hh=>by subst hh; exact absurd (hO.back q o hi q hq) (Nat.lt_irrefl q)
   refine ⟨a,M.len,fun t ht=>⟨fun q oq hq hd hah=>?_,fun hno=>?_⟩,?_⟩
   ·rw [if_neg (hlt q hah)]
    exact M.slot q oq t (hbe q hah) hq hd
   ·exact M.slot0 t fun q oq hmq hq hd=>by
     have hne:=hpre q hmq
     obtain ⟨s1,s2⟩:=hO.sorted j o q oq t hi hq hd ht hne
     rcases Nat.lt_or_gt_of_ne hne with hlt' | hgt
     ·rw [hno q oq hq hd] at s1; exact absurd (s1 hlt') (by simp)
     ·exact hni (M.closed q hmq j (s2 hgt))
   ·rw [if_pos rfl]; exact here hs
  ·have hm':j∈pre:=by simpa [hji] using hm
   obtain ⟨aj,hl,hlook,hor⟩:=M.pend j p hm' (fun hh=>hs ((hS j hji).2 hh)) hj
   refine ⟨aj,hl,fun t ht=>⟨fun q oq hq hd hah=>?_,(hlook t ht).2⟩,?_⟩
   ·have hqi:q≠i:=fun hh=>by
     subst hh
     exact hni (M.closed j hm' q hah)
    rw [if_neg hqi]
    exact (hlook t ht).1 q oq hq hd hah
   ·rw [if_neg hji]
    rcases hor with hor | ⟨h1,h2,h3⟩
    ·exact .inl hor
    ·exact .inr ⟨h1,hdn _ h2,hold j aj _ p (fun hh=>hs ((hS j hji).2 hh)) h2 hj h3⟩
theorem Mo.on (hO:Ord3 ops ms):∀ {n:Nat} {pre:List Nat} {dn:Dn} {a:Slots} {val:Nat->Value},Mo P ops ms K a₀ S h n pre dn a val →
  ∃ n' pre' dn' a' val',Mo P ops ms K a₀ S h n' pre' dn' a' val'/\(∀ j,S j->val' j=val j)/\(((∀ i o,ops[i]?=some o->i∈pre')/\K a' h)∨((∃ x o,ops[x]?=some o/\x ∉ pre')/\∃ m,n'=m+1/\∃ W:List Nat,(∀ x o,ops[x]?=some o->x ∉ pre'->x∈W∨∃ i,i∈W/\ahead ms x i=true) /\
   ∀ i,i∈W->∃ o,ops[i]?=some o/\i ∉ pre'/\(∀ j,ahead ms i j=true->j∈pre')/\wantedB ops o a'=true/\StepW P a' o h fun v h₁=>∃ a₁,putAt a' o.dst v=some a₁ /\
    (∀ e,e∈dn'->ahead ms i e.1=false->∀ p,ops[e.1]?=some p->StepQ P e.2.1 p h₁ e.2.2)/\OG P ops ms K m (i::pre') dn' a₁ h₁)):=by
 intro n
 induction n with
 | zero=>intro pre dn a val M; exact ⟨0,pre,dn,a,val,M,fun _ _=>rfl,.inl M.od⟩
 | succ n ih =>
  intro pre dn a val M
  have od:=M.od
  simp only [OG] at od
  rcases od with ⟨i,o,hi,hni,hbe,hor⟩ | ⟨hx,W,hW,hall⟩
  ·have hnS:∀ j,S j->j≠i:=fun j hj hh=>by subst hh; exact M.out j hni hj
   rcases hor with ⟨hw,a₁,ep,od⟩ | ⟨hw,v,a₁,sq,ep,od⟩
   ·obtain ⟨n',pre',dn',a',val',M',hv,hp⟩:=ih (M.step hO hi hni hbe ep od (fun _ he=>he) (fun _ _=>Iff.rfl) (fun _ _ _ _ _ _ _ hh=>hh) fun _=>.inl ⟨hw,rfl⟩)
    exact ⟨n',pre',dn',a',val',M',fun j hj=>by rw [hv j hj,if_neg (hnS j hj)],hp⟩
   ·obtain ⟨n',pre',dn',a',val',M',hv,hp⟩:=ih (M.step hO hi hni hbe ep od (fun _ he=>List.mem_cons_of_mem _ he) (fun _ _=>Iff.rfl) (fun _ _ _ _ _ _ _ hh=>hh) fun _=>.inr ⟨hw,by simp,sq⟩)
    exact ⟨n',pre',dn',a',val',M',fun j hj=>by rw [hv j hj,if_neg (hnS j hj)],hp⟩
  ·exact ⟨n+1,pre,dn,a,val,M,fun _ _=>rfl,.inr ⟨hx,n,rfl,W,hW,hall⟩⟩
theorem Mo.more {S':Nat->Prop} {n:Nat} {pre:List Nat} {dn:Dn} {a:Slots} {val:Nat->Value} (M:Mo P ops ms K a₀ S h n pre dn a val) (h1:∀ j,S j->S' j) (h2:∀ j,j ∉ pre->¬ S' j):Mo P ops ms K a₀ S' h n pre dn a val :=
 ⟨M.od,M.len,M.slot,M.slot0,h2,M.closed,fun j o hm hs=>M.pend j o hm fun hh=>hs (h1 j hh)⟩
end
theorem draw_any3 (hg:noGo P=true) {ro:Option Nat} {ds:List Deferred} {opsA:Array Oper} {ms:List Nat} {a₀:Slots} {K:Slots->AW->Prop} {ρ₀:Env} {h₀:AW} {w₀:World} {Q:Exit->Act->World->Prop}
  (hm:masksB opsA.toList []=some ms) (hO:Ord3 opsA.toList ms) (hback:backB opsA.toList 0=true)
  (hQ:∀ a' h' ρ' act' w',K a' h'->LRel ρ' a' act'.tmps.toList->act'.defers=ds->HRel P ρ' h' w'->Turn ρ₀ h₀ w₀ ρ' h' w'->Q .normal act' w') :
  ∀ (fuel:Nat) (listed:Array Bool) (act:Act) (w:World) (ρ:Env) (h:AW) (n:Nat) (pre:List Nat) (dn:Dn) (a:Slots) (val:Nat->Value),listed.size=opsA.size →
   (∀ i o,lst listed i=true->opsA.toList[i]?=some o->∀ e∈o.after.toList,Region.binds .any e=true->lst listed e.on=true) →
   Mo P opsA.toList ms K a₀ (fun j=>lst listed j=true) h n pre dn a val->HRel P ρ h w->Turn ρ₀ h₀ w₀ ρ h w->act.tmps.size=a₀.length->act.defers=ds →
   (∀ j o d,lst listed j=true->opsA.toList[j]?=some o->o.dst=some d->∃ u,act.tmps[d]?=some u/\VRel ρ (val j) u) →
   (∀ t x,(∀ j (o:Oper),lst listed j=true->opsA.toList[j]?=some o->o.dst≠some t)->a₀[t]?=some x->∃ u,act.tmps[t]?=some u/\VRel ρ x u) →
   ((List.range opsA.size).filter fun i=>!listed.getD i true).length<=fuel->wpAnyIn (wideAt ro) 0 P .any opsA Q fuel listed act w:=by
 have hgetD:∀ (listed:Array Bool) (i:Nat),i < listed.size->listed.getD i true=lst listed i:=fun listed i hi=>by
  unfold lst
  rw [Array.getD_eq_getD_getElem?,Array.getD_eq_getD_getElem?,Array.getElem?_eq_getElem hi]; rfl
 -- when all are listed
 have final:∀ (listed:Array Bool) (act:Act) (w:World) (ρ:Env) (h:AW) (n:Nat) (pre:List Nat) (dn:Dn) (a:Slots) (val:Nat->Value),(∀ i,i < opsA.size->lst listed i=true) →
   Mo P opsA.toList ms K a₀ (fun j=>lst listed j=true) h n pre dn a val->HRel P ρ h w->Turn ρ₀ h₀ w₀ ρ h w->act.tmps.size=a₀.length->act.defers=ds →
   (∀ j o d,lst listed j=true->opsA.toList[j]?=some o->o.dst=some d->∃ u,act.tmps[d]?=some u/\VRel ρ (val j) u) →
   (∀ t x,(∀ j (o:Oper),lst listed j=true->opsA.toList[j]?=some o->o.dst≠some t)->a₀[t]?=some x->∃ u,act.tmps[t]?=some u/\VRel ρ x u)->Q .normal act w:=by
  intro listed act w ρ h n pre dn a val hall M HR T hsz hd hs1 hs0
  obtain ⟨n',pre',dn',a',val',M',hveq,hhead⟩:=M.on hO
  have hs1':∀ j o d,lst listed j=true->opsA.toList[j]?=some o->o.dst=some d->∃ u,act.tmps[d]?=some u/\VRel ρ (val' j) u:=fun j o d hj ho hd'=>by
   rw [hveq j hj]; exact hs1 j o d hj ho hd'
  obtain ⟨hin,hk⟩:(∀ i o,opsA.toList[i]?=some o->i∈pre')/\K a' h:=by
   rcases hhead with hh | ⟨⟨x,o,hx,hnx⟩,_⟩
   ·exact hh
   ·have hlt:=(List.getElem?_eq_some_iff.1 hx).1
    exact absurd (hall x (by simpa using hlt)) (M'.out x hnx)
  refine hQ a' h ρ act w hk (LRel.of_get (by have:=M'.len; simp; omega) fun t x hx=>?_) hd HR T
  rw [Array.getElem?_toList]
  by_cases hex:∃ (j:Nat) (o:Oper),opsA.toList[j]?=some o/\o.dst=some t
  ·obtain ⟨j,o,hj,hdj⟩:=hex
   have:=M'.slot j o t (hin j o hj) hj hdj
   rw [this] at hx; simp at hx; subst hx
   exact hs1' j o t (hall j (by simpa using (List.getElem?_eq_some_iff.1 hj).1)) hj hdj
  ·rw [M'.slot0 t fun j o _ hj hdj=>hex ⟨j,o,hj,hdj⟩] at hx
   exact hs0 t x (fun j o _ hj hdj=>hex ⟨j,o,hj,hdj⟩) hx
 intro fuel
 induction fuel with
 | zero =>
  intro listed act w ρ h n pre dn a val hsize hclosed M HR T hsz hd hs1 hs0 hfuel
  have hnil:((List.range opsA.size).filter fun i=>!listed.getD i true)=[]:=List.eq_nil_of_length_eq_zero (by omega)
  have hall:∀ i,i < opsA.size->lst listed i=true:=fun i hi=>by
   have:=List.filter_eq_nil_iff.1 hnil i (by simpa using hi)
   rw [hgetD listed i (by omega)] at this
   simpa using this
  refine ⟨?_,final listed act w ρ h n pre dn a val hall M HR T hsz hd hs1 hs0⟩
  unfold Region.ready
  rw [List.filter_eq_nil_iff]
  intro i hi
  rw [hgetD listed i (by simp at hi; omega),hall i (by simpa using hi)]
  simp
 | succ fuel ih =>
  intro listed act w ρ h n pre dn a val hsize hclosed M HR T hsz hd hs1 hs0 hfuel
  refine ⟨fun hready=>?_,fun i hi=>?_⟩
  ·have hall:∀ i,i < opsA.size->lst listed i=true:=by
    intro i
    induction i using Nat.strongRecOn with
    | _ i ihi =>
     intro hi
     cases hb:lst listed i with
     | true=>rfl
     | false =>
      have hin:i∈Region.ready .any opsA listed:=by
       unfold Region.ready
       rw [List.mem_filter]
       refine ⟨by simpa using hi,?_⟩
       rw [hgetD listed i (by omega),hb]
       have ho:opsA[i]?=some opsA[i]:=Array.getElem?_eq_getElem hi
       simp only [ho,Option.map_some,Option.getD_some,Bool.not_false,Bool.true_and]
       rw [Array.all_eq_true']
       intro e he
       cases hbe:Region.binds .any e with
       | false=>simp
       | true =>
       have hlt:=backB_spec hback i opsA[i] (by rw [Array.getElem?_toList]; exact ho) e (by simpa using he) hbe
       have:=ihi e.on (by omega) (by omega)
       unfold lst at this
       rw [this]; simp
      rw [hready] at hin
      simp at hin
   exact final listed act w ρ h n pre dn a val hall M HR T hsz hd hs1 hs0
  ·obtain ⟨n',pre',dn',a',val',M',hveq,hhead⟩:=M.on hO
   have hs1':∀ j o d,lst listed j=true->opsA.toList[j]?=some o->o.dst=some d->∃ u,act.tmps[d]?=some u/\VRel ρ (val' j) u:=fun j o d hj ho hd'=>by
    rw [hveq j hj]; exact hs1 j o d hj ho hd'
   clear M hs1 hveq
   -- the operation i stands next
   unfold Region.ready at hi
   rw [List.mem_filter] at hi
   obtain ⟨hin,hi⟩:=hi
   have hin:i < opsA.size:=by simpa using hin
   have ho:opsA[i]?=some opsA[i]:=Array.getElem?_eq_getElem hin
   generalize opsA[i]=o at ho
   rw [hgetD listed i (by omega),ho] at hi
   simp only [Option.map_some,Option.getD_some,Bool.and_eq_true,Bool.not_eq_true'] at hi
   obtain ⟨hnot,hpre⟩:=hi
   rw [Array.all_eq_true'] at hpre
   have hoL:opsA.toList[i]?=some o:=by rw [Array.getElem?_toList]; exact ho
   have hpreds:∀ e∈o.after.toList,Region.binds .any e=true->lst listed e.on=true:=fun e he hb=>by
    have:=hpre e (by simpa using he)
    rw [hb] at this
    simpa [lst] using this
   have hclose:=closed_ahead hm hback (S:=fun j=>lst listed j=true) hclosed
   have hbefore:∀ j,ahead ms i j=true->lst listed j=true:=hclose i o hoL hpreds
   have hafter:∀ j q,opsA.toList[j]?=some q->lst listed j=true->ahead ms j i=false:=fun j q hq hj=>by
    cases hb:ahead ms j i with
    | false=>rfl
    | true =>
     have:=hclose j q hq (hclosed j q hj hq) i hb
     rw [hnot] at this; cases this
   -- what stands in the slots
   let A:Slots:=(List.range a₀.length).map fun t=>open Classical in if hx:∃ j o,lst listed j=true/\opsA.toList[j]?=some o/\o.dst=some t then val' (Classical.choose hx) else (a₀[t]?).getD undef
   have hAl:A.length=a₀.length:=by simp [A]
   have hA:∀ t,t < a₀.length->A[t]?=some (open Classical in if hx:∃ j o,lst listed j=true/\opsA.toList[j]?=some o/\o.dst=some t then val' (Classical.choose hx) else (a₀[t]?).getD undef):=fun t ht=>by
    simp only [A,List.getElem?_map]
    rw [List.getElem?_range ht]; rfl
   have hA1:∀ j o t,lst listed j=true->opsA.toList[j]?=some o->o.dst=some t->t < a₀.length->A[t]?=some (val' j):=fun j o t hj hjo hjd ht=>by
    rw [hA t ht]
    have hx:∃ j o,lst listed j=true/\opsA.toList[j]?=some o/\o.dst=some t:=⟨j,o,hj,hjo,hjd⟩
    rw [dif_pos hx]
    obtain ⟨p,h1,h2,h3⟩:=Classical.choose_spec hx
    rw [hO.once _ j p o t h2 hjo h3 hjd]
   have hA0:∀ t,(∀ j (o:Oper),lst listed j=true->opsA.toList[j]?=some o->o.dst≠some t)->A[t]?=a₀[t]?:=fun t hno=>by
    by_cases ht:t < a₀.length
    ·rw [hA t ht,dif_neg (fun ⟨j,o,h1,h2,h3⟩=>hno j o h1 h2 h3),List.getElem?_eq_getElem ht]; rfl
    ·rw [List.getElem?_eq_none (by rw [hAl]; exact Nat.le_of_not_lt ht),List.getElem?_eq_none (Nat.le_of_not_lt ht)]
   have hrelA:LRel ρ A act.tmps.toList:=LRel.of_get (by simp; omega) fun t x hx=>by
    rw [Array.getElem?_toList]
    have ht:t < a₀.length:=by have:=(List.getElem?_eq_some_iff.1 hx).1; omega
    by_cases hex:∃ j o,lst listed j=true/\opsA.toList[j]?=some o/\o.dst=some t
    ·obtain ⟨j,p,h1,h2,h3⟩:=hex
     rw [hA1 j p t h1 h2 h3 ht] at hx
     simp at hx; subst hx
     exact hs1' j p t h1 h2 h3
    ·have hno:∀ j (o:Oper),lst listed j=true->opsA.toList[j]?=some o->o.dst≠some t:=fun j o h1 h2 h3=>hex ⟨j,o,h1,h2,h3⟩
     rw [hA0 t hno] at hx
     exact hs0 t x hno hx
   -- no other one writes what it looks at
   have hlone:∀ t,t∈looksB opsA.toList o->(∀ q oq,opsA.toList[q]?=some oq->oq.dst=some t->ahead ms i q=false)->∀ j (p:Oper),lst listed j=true->opsA.toList[j]?=some p->p.dst≠some t:=fun t ht hno j p hj hjp hjd=>by
    have hne:j≠i:=fun hh=>by subst hh; rw [hnot] at hj; cases hj
    obtain ⟨s1,s2⟩:=hO.sorted i o j p t hoL hjp hjd ht hne
    rcases Nat.lt_or_gt_of_ne hne with hlt | hgt
    ·rw [hno j p hjp hjd] at s1; exact absurd (s1 hlt) (by simp)
    ·rw [hafter j p hjp hj] at s2; exact absurd (s2 hgt) (by simp)
   -- what holds behind it
   have next:∀ (u v:Value) (w':World) (ρ':Env) (h':AW) (n':Nat) (pre':List Nat) (dn':Dn) (a':Slots) (val:Nat->Value),ρ.le ρ'->VRel ρ' v u->HRel P ρ' h' w'->Turn ρ h w ρ' h' w'->val i=v->(∀ j,lst listed j=true->val j=val' j) →
     Mo P opsA.toList ms K a₀ (fun j=>lst (listed.setIfInBounds i true) j=true) h' n' pre' dn' a' val->wpAnyIn (wideAt ro) 0 P .any opsA Q fuel (listed.setIfInBounds i true) (act.put o.dst u) w':=by
    intro u v w' ρ' h' n' pre' dn' a' val le hv HR' T' hvi hvj M
    have hput:∀ t,(act.put o.dst u).tmps[t]?=if o.dst=some t then (if t < act.tmps.size then some u else none) else act.tmps[t]?:=fun t=>by
     cases hd':o.dst with
     | none=>simp [Act.put]
     | some d =>
      simp only [Act.put,Array.getElem?_setIfInBounds]
      by_cases hdt:d=t
      ·subst hdt; simp
      ·rw [if_neg hdt,if_neg (fun hh=>hdt (by simpa using hh))]
    refine ih _ _ w' ρ' h' n' pre' dn' a' val (by simpa using hsize) ?_ M HR' (T.trans T') ?_ (by rw [put_defers]; exact hd) ?_ ?_ ?_
    ·intro j q hj hq e he hb
     rw [lst_set (by omega)] at hj ⊢
     by_cases hji:j=i
     ·subst hji
      rw [hoL] at hq; simp at hq; subst hq
      rw [hpreds e he hb]; simp
     ·rw [if_neg hji] at hj
      rw [hclosed j q hj hq e he hb]; simp
    ·rw [← hsz]
     cases o.dst <;> simp [Act.put]
    ·intro j p d hj hp hpd
     rw [lst_set (by omega)] at hj
     by_cases hji:j=i
     ·subst hji
      rw [hoL] at hp; simp at hp; subst hp
      have hlt:d < act.tmps.size:=by
       have hpp:j∈pre':=by
        by_cases hpp:j∈pre'
        ·exact hpp
        ·exact absurd (by rw [lst_set (by omega)]; simp) (M.out j hpp)
       have h1:=(List.getElem?_eq_some_iff.1 (M.slot j o d hpp hoL hpd)).1
       rw [M.len,← hsz] at h1
       exact h1
      exact ⟨u,by rw [hput,if_pos hpd,if_pos hlt],by rw [hvi]; exact hv⟩
     ·rw [if_neg hji] at hj
      obtain ⟨x,hx,hr⟩:=hs1' j p d hj hp hpd
      refine ⟨x,?_,by rw [hvj j hj]; exact hr.mono le⟩
      rw [hput,if_neg (fun hh=>hji (hO.once j i p o d hp hoL hpd hh))]
      exact hx
    ·intro t x hno hx
     have hdt:o.dst≠some t:=hno i o (by rw [lst_set (by omega)]; simp) hoL
     obtain ⟨y,hy,hr⟩:=hs0 t x (fun j p hj hp=>hno j p (by rw [lst_set (by omega),hj]; simp) hp) hx
     exact ⟨y,by rw [hput,if_neg hdt]; exact hy,hr.mono le⟩
    ·have:=cnt_lt (l:=List.range opsA.size) (p:=fun j=>!listed.getD j true) (q:=fun j=>!(listed.setIfInBounds i true).getD j true) (fun x hx=>by
      rw [Array.getD_eq_getD_getElem?,Array.getElem?_setIfInBounds] at hx
      rw [Array.getD_eq_getD_getElem?]
      by_cases hxi:i=x
      ·subst hxi; rw [if_pos rfl,if_pos (by omega)] at hx; simp at hx
      ·rwa [if_neg hxi] at hx) ⟨i,by simpa using hin,by rw [hgetD listed i (by omega),hnot]; rfl,by
       rw [Array.getD_eq_getD_getElem?,Array.getElem?_setIfInBounds,if_pos rfl,if_pos (by omega)]; rfl⟩
     omega
   have hmono:∀ j,lst listed j=true->lst (listed.setIfInBounds i true) j=true:=fun j hj=>by rw [lst_set (by omega),hj]; simp
   unfold wpOpIn
   rw [ho]
   simp only
   by_cases hb:i∈pre'
   ·-- it has been put off till now
    obtain ⟨aj,hl,hlook,hor⟩:=M'.pend i o hb (by rw [hnot]; simp) hoL
    have hsame:∀ t,t∈looksB opsA.toList o->A[t]?=aj[t]?:=fun t ht=>by
     by_cases hex:∃ q oq,opsA.toList[q]?=some oq/\oq.dst=some t/\ahead ms i q=true
     ·obtain ⟨q,oq,h1,h2,h3⟩:=hex
      have e1:=(hlook t ht).1 q oq h1 h2 h3
      have hlt:t < a₀.length:=by have:=(List.getElem?_eq_some_iff.1 e1).1; omega
      rw [e1]
      exact hA1 q oq t (hbefore q h3) h1 h2 hlt
     ·have hno:∀ q oq,opsA.toList[q]?=some oq->oq.dst=some t->ahead ms i q=false:=fun q oq h1 h2=>by
       cases hb':ahead ms i q with
       | false=>rfl
       | true=>exact absurd ⟨q,oq,h1,h2,hb'⟩ hex
      rw [(hlook t ht).2 hno]
      exact hA0 t (hlone t ht hno)
    have M2:Mo P opsA.toList ms K a₀ (fun j=>lst (listed.setIfInBounds i true) j=true) h n' pre' dn' a' val':=M'.more hmono fun j hjp hj=>by
     rw [lst_set (by omega)] at hj
     by_cases hji:j=i
     ·subst hji
      exact hjp hb
     ·rw [if_neg hji] at hj; exact M'.out j hjp hj
    have hopA:opB P A o h=opB P aj o h:=opB_congr (aev_congr hsame)
    rcases hor with ⟨hw,hv⟩ | ⟨hw,_,hq⟩
    ·obtain ⟨hw,hsure⟩:=skip_iff.1 hw
     rw [← wantedB_eq hrelA (by rw [sureB_congr hsame]; exact hsure),wantedB_congr hsame,hw,if_neg (by simp)]
     exact ⟨fun _ _=>trivial,next undef undef w ρ h n' pre' dn' a' val' (Env.le_refl _) undef_rel HR (Turn.refl _ _ _) hv (fun _ _=>rfl) M2⟩
    ·rw [← wantedB_eq hrelA (by rw [sureB_congr hsame]; exact sure_of_wanted hw),wantedB_congr hsame,hw,if_pos rfl]
     rcases hq with hop | ⟨f,args,hop,hcq⟩ | ⟨hvo,r₀,off₀,hvv⟩
     ·obtain ⟨n,u,w',ρ',hrun,hn,hv,HR',T'⟩:=opB_sound hrelA HR (by rw [hopA]; exact hop)
      have:=next u _ w' ρ' h n' pre' dn' a' val' T'.le hv HR' T' rfl (fun _ _=>rfl) M2
      refine ⟨fun _ _=>trivial,?_⟩
      rw [Oper.semAt_eq _ _ _ (opB_noDefer hop),hrun]
      rcases hn with rfl | ⟨rfl,rfl⟩ <;> exact this
     ·obtain ⟨us,hus,hrun⟩:=opB_sound hrelA HR (e:=by rw [hopA]; exact hop)
      obtain ⟨⟨fn,c,hf,hbd⟩,hcalls⟩:=hcq
      refine ⟨fun _ _=>trivial,?_⟩
      rw [Oper.semAt_eq _ _ _ (opB_noDefer hop),hrun,run_callFunc hg hf hbd]
      refine ⟨fun hh=>(by cases hh),callsIn_at.2 ((hcalls ρ us w hus HR).mono ?_)⟩
      rintro en w₁ ⟨v,h₁,u,ρ₁,rfl,⟨rfl,rfl⟩,hv,H₁,T₁⟩
      exact next u _ w₁ ρ₁ h₁ n' pre' dn' a' val' T₁.le hv H₁ T₁ rfl (fun _ _=>rfl) M2
     ·obtain ⟨t₀,el,n₀,zs,hoo,hu,hn,_,_⟩:=voidB_op hvo
      obtain ⟨u,w',ρ',hrun,hv,HR',T'⟩:=void_done (r:=r₀) (off:=off₀) (zs:=zs) HR hu hn
      rw [← hvv] at hv
      have:=next u _ w' ρ' h n' pre' dn' a' val' T'.le hv HR' T' rfl (fun _ _=>rfl) M2
      refine ⟨fun _ _=>trivial,?_⟩
      rw [Oper.semAt_eq _ _ _ (fun c hc=>by rw [hoo] at hc; cases hc)]
      simp only [execOp,hoo,List.map_toArray,List.map_nil,Sem.run_bind,hrun,Result.andThen_ok,Sem.run_pure]
      exact this
   ·-- it turns the rows
    rcases hhead with ⟨hallin,_⟩ | ⟨_,m,_,W,hW,hstep⟩
    ·exact absurd (hallin i o hoL) hb
    have hiW:i∈W:=(hW i o hoL hb).resolve_right fun ⟨i',hi'W,hah⟩=>by
     obtain ⟨o'',_,hni',_⟩:=hstep i' hi'W
     exact M'.out i' hni' (hbefore i' hah)
    obtain ⟨o',hi',hni,hbe,hw,sw⟩:=hstep i hiW
    rw [hoL] at hi'; simp at hi'; subst hi'
    have hsame:∀ t,t∈looksB opsA.toList o->A[t]?=a'[t]?:=fun t ht=>by
     by_cases hex:∃ q oq,opsA.toList[q]?=some oq/\oq.dst=some t/\ahead ms i q=true
     ·obtain ⟨q,oq,h1,h2,h3⟩:=hex
      have e1:=M'.slot q oq t (hbe q h3) h1 h2
      have hlt:t < a₀.length:=by have:=(List.getElem?_eq_some_iff.1 e1).1; have:=M'.len; omega
      rw [e1]
      exact hA1 q oq t (hbefore q h3) h1 h2 hlt
     ·have hno:∀ q oq,opsA.toList[q]?=some oq->oq.dst=some t->ahead ms i q=false:=fun q oq h1 h2=>by
       cases hb':ahead ms i q with
       | false=>rfl
       | true=>exact absurd ⟨q,oq,h1,h2,hb'⟩ hex
      rw [hA0 t (hlone t ht hno)]
      refine (M'.slot0 t fun j p hbj hjp hjd=>?_).symm
      have hne:j≠i:=fun hh=>by subst hh; exact hb hbj
      obtain ⟨s1,s2⟩:=hO.sorted i o j p t hoL hjp hjd ht hne
      rcases Nat.lt_or_gt_of_ne hne with hlt | hgt
      ·rw [hno j p hjp hjd] at s1; exact absurd (s1 hlt) (by simp)
      ·exact hb (M'.closed j hbj i (s2 hgt))
    have hopA:opB P A o h=opB P a' o h:=opB_congr (aev_congr hsame)
    rw [← wantedB_eq hrelA (by rw [sureB_congr hsame]; exact sure_of_wanted hw),wantedB_congr hsame,hw,if_pos rfl]
    have go:∀ v h₁ u w' ρ',(∃ a₁,putAt a' o.dst v=some a₁/\(∀ e,e∈dn'->ahead ms i e.1=false->∀ p,opsA.toList[e.1]?=some p->StepQ P e.2.1 p h₁ e.2.2)/\OG P opsA.toList ms K m (i::pre') dn' a₁ h₁) →
      VRel ρ' v u->HRel P ρ' h₁ w'->Turn ρ h w ρ' h₁ w'->wpAnyIn (wideAt ro) 0 P .any opsA Q fuel (listed.setIfInBounds i true) (act.put o.dst u) w':=by
     rintro v h₁ u w' ρ' ⟨a₁,ep,hobl,hod⟩ hv HR' T'
     have M2:=M'.step (S':=fun j=>lst (listed.setIfInBounds i true) j=true) hO hoL hni hbe ep hod (fun _ he=>he) (fun j hj=>by rw [lst_set (by omega),if_neg hj]) (fun j aj u p hs hm hp _=>hobl _ hm (by
      cases hb':ahead ms i j with
      | false=>rfl
      | true=>exact absurd (hbefore j hb') hs) p hp) (fun hs=>absurd (by rw [lst_set (by omega)]; simp) hs)
     refine next u v w' ρ' h₁ _ _ _ _ _ T'.le hv HR' T' ?_ ?_ M2
     ·simp
     ·intro j hj
      have hne:j≠i:=fun hh=>by subst hh; rw [hnot] at hj; cases hj
      simp [hne]
    rcases sw with ⟨v,h₁,hop,hR⟩ | ⟨f,args,hop,hcq⟩
    ·obtain ⟨n,u,w',ρ',hrun,hn,hv,HR',T'⟩:=opB_sound hrelA HR (by rw [hopA]; exact hop)
     have:=go v h₁ u w' ρ' hR hv HR' T'
     refine ⟨fun _ _=>trivial,?_⟩
     rw [Oper.semAt_eq _ _ _ (opB_noDefer hop),hrun]
     rcases hn with rfl | ⟨rfl,rfl⟩ <;> exact this
    ·obtain ⟨us,hus,hrun⟩:=opB_sound hrelA HR (e:=by rw [hopA]; exact hop)
     obtain ⟨⟨fn,c,hf,hbd⟩,hcalls⟩:=hcq
     refine ⟨fun _ _=>trivial,?_⟩
     rw [Oper.semAt_eq _ _ _ (opB_noDefer hop),hrun,run_callFunc hg hf hbd]
     refine ⟨fun hh=>(by cases hh),callsIn_at.2 ((hcalls ρ us w hus HR).mono ?_)⟩
     rintro en w₁ ⟨v,h₁,u,ρ₁,rfl,hR,hv,H₁,T₁⟩
     exact go v h₁ u w₁ ρ₁ hR hv H₁ T₁
theorem LQ.drawn3 {rd:Option Nat} (hg:noGo P=true) (hmix:P.follows .mixedOrders=true) {id:Nat} {opsA:Array Oper} {ops:List Oper} {ms:List Nat} {a:Slots} {h:AW} {R:AExit->Slots->AW->Prop} (n:Nat)
  (hl:opsA.toList=ops) (hm:masksB ops []=some ms) (hok:((onceB (dstsB ops) && backB ops 0) && allSorted ms ops ops 0)=true) (k:OG P ops ms (R .normal) n [] [] a h):LQ rd P (.region id opsA true) a h R:=by
 subst hl
 intro n₀ ro ρ act w Q _ hr hd H hQ
 obtain ⟨hO,hback⟩:=ord3_of hm hok
 refine wpIn_region_any hmix ?_
 have hempty:∀ j,lst (Array.replicate opsA.size false) j=false:=fun j=>by
  unfold lst
  rw [Array.getD_eq_getD_getElem?,Array.getElem?_replicate]
  split <;> rfl
 have hw:({ w with drawn:=w.drawn+1 }:World).heap=w.heap:=rfl
 refine draw_any3 (ρ₀:=ρ) (h₀:=h) (w₀:=w) hg hm hO hback (ds:=act.defers) (fun a' h' ρ' act' w' k' b c d t=>hQ .normal a' h' ρ' act' w' k' b (by rw [c]; exact hd.turn t) d t) opsA.size _ act _ ρ h n [] [] a (fun _=>undef) (by simp) (fun i o hi=>by rw [hempty] at hi; cases hi)
  ⟨k,rfl,fun j o d hb=>(by simp at hb),fun t _=>rfl,fun j _=>by rw [hempty]; simp,fun p hp=>by simp at hp,fun j o hb=>by simp at hb⟩ (H.draw hw) (Turn.draw hw rfl rfl rfl (Turn.refl _ _ _)) ?_ rfl (fun j o d hj=>by rw [hempty] at hj; cases hj) ?_ ?_
 ·have:=hr.length; simpa using this.symm
 ·intro t x _ hx
  obtain ⟨u,hu',hv⟩:=hr.get hx
  rw [Array.getElem?_toList] at hu'
  exact ⟨u,hu',hv⟩
 ·exact Nat.le_trans (List.length_filter_le _ _) (by simp)
end
section
variable {P:Program} {ops:List Oper} {ms:List Nat} {K:Slots->RL->Prop} {n:Nat} {pre:List Nat} {dn:Dn} {a a₁:Slots} {L L₁:RL} {o:Oper} {v:Value}
def OGS (P:Program) (ops:List Oper) (ms:List Nat) (K:Slots->RL->Prop) (n:Nat) (pre:List Nat) (dn:Dn) (a:Slots) (L:RL):Prop :=
 Ord3 ops ms->∀ h,Has h L->∀ dn₀:Dn,(∀ e,e∈dn₀->e∈dn∨Always P ops e)->OG P ops ms (fun a' h'=>∃ L',K a' L'/\Has h' L') n pre dn₀ a h
def OT (P:Program) (ops:List Oper) (ms:List Nat) (K:Slots->RL->Prop) (n:Nat) (pre:List Nat) (i:Nat) (dn:Dn) (a:Slots) (L:RL):Prop :=
 Ord3 ops ms->∀ h,Has h L->∀ dn₀:Dn,(∀ e,e∈dn₀->e∈dn∨Always P ops e)->∃ o,ops[i]?=some o/\wantedB ops o a=true/\StepW P a o h fun v h₁=>∃ a₁,putAt a o.dst v=some a₁ /\
  (∀ e,e∈dn₀->ahead ms i e.1=false->∀ p,ops[e.1]?=some p->StepQ P e.2.1 p h₁ e.2.2)/\OG P ops ms (fun a' h'=>∃ L',K a' L'/\Has h' L') n (i::pre) dn₀ a₁ h₁
def nextB (ops:List Oper) (ms pre:List Nat) (i:Nat):Bool:=(Nat.ble (i+1) ops.length && !hasNat pre i) && (List.range i).all fun j=>!ahead ms i j || hasNat pre j
theorem nextB_of {i:Nat} (hO:Ord3 ops ms) (h:nextB ops ms pre i=true):i ∉ pre/\∀ j,ahead ms i j=true->j∈pre:=by
 unfold nextB at h
 simp only [Bool.and_eq_true] at h
 obtain ⟨⟨h1,h2⟩,h3⟩:=h
 have h1:=of_ble h1
 refine ⟨fun hm=>?_,fun j hj=>?_⟩
 ·rw [hasNat_mem.2 hm] at h2; cases h2
 ·have:=List.all_eq_true.1 h3 j (by simpa using hO.back i _ (List.getElem?_eq_getElem (show i < ops.length by omega)) j hj)
  rw [hj] at this
  exact hasNat_mem.1 (by simpa using this)
def doneB (ops:List Oper) (pre:List Nat):Bool:=(List.range ops.length).all fun i=>hasNat pre i
theorem doneB_of (h:doneB ops pre=true):∀ i o,ops[i]?=some o->i∈pre:=fun i o hi=>by
 have:=List.all_eq_true.1 h i (by simpa using (List.getElem?_eq_some_iff.1 hi).1)
 exact hasNat_mem.1 this
def turnB (ops:List Oper) (ms pre W:List Nat):Bool:=(W.all fun i=>nextB ops ms pre i) && ((List.range ops.length).all fun x=>hasNat pre x || (hasNat W x || W.any fun i=>ahead ms x i))
theorem OGS.nil (hd:doneB ops pre=true) (k:K a L):OGS P ops ms K 0 pre dn a L:=fun _ h H dn₀ _=>⟨doneB_of hd,L,k,H⟩
theorem OGS.pure (i:Nat) (hn:nextB ops ms pre i=true) (hi:ops[i]?=some o) (hw:wantedB ops o a=true) (e:∀ h,opB P a o h=some (.val v h)) (ep:putAt a o.dst v=some a₁) (k:OGS P ops ms K n (i::pre) dn a₁ L):OGS P ops ms K (n+1) pre dn a L:=fun hO h H dn₀ hdn=>by
 obtain ⟨h1,h2⟩:=nextB_of hO hn
 simp only [OG]
 refine .inl ⟨i,o,hi,h1,h2,.inr ⟨hw,v,a₁,.inl (e h),ep,k hO h H _ fun e' he=>?_⟩⟩
 rcases List.mem_cons.1 he with rfl | he
 ·exact .inr fun p hp h'=>by simp only at hp; rw [hi] at hp; simp at hp; subst hp; exact .inl (e h')
 ·exact hdn e' he
theorem OGS.read (i:Nat) (hn:nextB ops ms pre i=true) (hi:ops[i]?=some o) (hw:wantedB ops o a=true) (e:∀ h,Has h L->opB P a o h=some (.val v h)) (ep:putAt a o.dst v=some a₁) (k:OGS P ops ms K n (i::pre) ((i,a,v)::dn) a₁ L):OGS P ops ms K (n+1) pre dn a L:=fun hO h H dn₀ hdn=>by
 obtain ⟨h1,h2⟩:=nextB_of hO hn
 simp only [OG]
 refine .inl ⟨i,o,hi,h1,h2,.inr ⟨hw,v,a₁,.inl (e h H),ep,k hO h H _ fun e' he=>?_⟩⟩
 rcases List.mem_cons.1 he with rfl | he
 ·exact .inl (by simp)
 ·exact (hdn e' he).imp (fun h=>List.mem_cons_of_mem _ h) id
theorem OGS.turn (W:List Nat) (hW:turnB ops ms pre W=true) (hx:doneB ops pre=false) (k:∀ i,i∈W->OT P ops ms K n pre i dn a L):OGS P ops ms K (n+1) pre dn a L:=fun hO h H dn₀ hdn=>by
 unfold turnB at hW
 rw [Bool.and_eq_true] at hW
 obtain ⟨hW1,hW2⟩:=hW
 simp only [OG]
 refine .inr ⟨?_,W,fun x o hxo hxn=>?_,fun i hi=>?_⟩
 ·unfold doneB at hx
  rw [List.all_eq_false] at hx
  obtain ⟨x,hx1,hx2⟩:=hx
  have hlt:x < ops.length:=by simpa using hx1
  exact ⟨x,_,List.getElem?_eq_getElem hlt,fun hm=>hx2 (hasNat_mem.2 hm)⟩
 ·have:=List.all_eq_true.1 hW2 x (by simpa using (List.getElem?_eq_some_iff.1 hxo).1)
  rw [Bool.or_eq_true,Bool.or_eq_true] at this
  rcases this with h1 | h1 | h1
  ·exact absurd (hasNat_mem.1 h1) hxn
  ·exact .inl (hasNat_mem.1 h1)
  ·obtain ⟨i,hi,hah⟩:=List.any_eq_true.1 h1
   exact .inr ⟨i,hi,hah⟩
 ·obtain ⟨h1,h2⟩:=nextB_of hO (List.all_eq_true.1 hW1 i hi)
  obtain ⟨o,ho,hw,sw⟩:=k i hi hO h H dn₀ hdn
  exact ⟨o,ho,h1,h2,hw,sw⟩
theorem OGS.turn1 (i:Nat) (hW:turnB ops ms pre [i]=true) (hx:doneB ops pre=false) (k:OT P ops ms K n pre i dn a L):OGS P ops ms K (n+1) pre dn a L :=
 OGS.turn [i] hW hx fun j hj=>by rw [List.mem_singleton] at hj; subst hj; exact k
theorem OGS.turn2 (i j:Nat) (hW:turnB ops ms pre [i,j]=true) (hx:doneB ops pre=false) (ki:OT P ops ms K n pre i dn a L) (kj:OT P ops ms K n pre j dn a L):OGS P ops ms K (n+1) pre dn a L :=
 OGS.turn [i,j] hW hx fun m hm=>by
  rcases List.mem_cons.1 hm with rfl | hm
  ·exact ki
  ·rw [List.mem_singleton] at hm; subst hm; exact kj
theorem OGS.sub (s:Sub L₁ L) (k:OGS P ops ms K n pre dn a L₁):OGS P ops ms K n pre dn a L:=fun hO h H=>k hO h (s.has H)
theorem OT.write {i:Nat} (hi:ops[i]?=some o) (hw:wantedB ops o a=true) (e:∀ h,Has h L->∃ h₁,opB P a o h=some (.val v h₁)/\Has h₁ L₁) (ep:putAt a o.dst v=some a₁) (hk:Keep P ops ms i dn L₁) (k:OGS P ops ms K n (i::pre) dn a₁ L₁):OT P ops ms K n pre i dn a L:=fun hO h H dn₀ hdn=>by
 obtain ⟨h₁,e₁,H₁⟩:=e h H
 exact ⟨o,hi,hw,.inl ⟨v,h₁,e₁,a₁,ep,keepDn hdn hk H₁,k hO h₁ H₁ dn₀ hdn⟩⟩
theorem OT.fresh {i:Nat} {V:Nat->Value} {A:Nat->Slots} {M:Nat->RL} (hi:ops[i]?=some o) (hw:wantedB ops o a=true) (e:∀ h,Has h L->∃ r h₁,opB P a o h=some (.val (V r) h₁)/\Has h₁ (M r)) (ep:∀ r,putAt a o.dst (V r)=some (A r)) (hk:∀ r,Keep P ops ms i dn (M r)) (k:∀ r,OGS P ops ms K n (i::pre) dn (A r) (M r)):OT P ops ms K n pre i dn a L:=fun hO h H dn₀ hdn=>by
 obtain ⟨r,h₁,e₁,H₁⟩:=e h H
 exact ⟨o,hi,hw,.inl ⟨_,h₁,e₁,A r,ep r,keepDn hdn (hk r) H₁,k r hO h₁ H₁ dn₀ hdn⟩⟩
theorem OT.call {i:Nat} {f:FuncId} {args:List Value} (hi:ops[i]?=some o) (hw:wantedB ops o a=true) (e:∀ h,opB P a o h=some (.call f args)) (hc:CS P f args L fun v L₁=>∃ a₁,putAt a o.dst v=some a₁/\Keep P ops ms i dn L₁/\OGS P ops ms K n (i::pre) dn a₁ L₁):OT P ops ms K n pre i dn a L:=fun hO h H dn₀ hdn=>by
 refine ⟨o,hi,hw,.inr ⟨f,args,e h,(hc h H).mono ?_⟩⟩
 rintro v h₁ ⟨L₁,⟨a₁,ep,hk,k⟩,H₁⟩
 exact ⟨a₁,ep,keepDn hdn hk H₁,k hO h₁ H₁ dn₀ hdn⟩
theorem LS.forked {rd:Option Nat} (hg:noGo P=true) (hmix:P.follows .mixedOrders=true) {id:Nat} {opsA:Array Oper} {R:AExit->Slots->RL->Prop} (n:Nat) (hl:opsA.toList=ops) (hm:masksB ops []=some ms) (hok:((onceB (dstsB ops) && backB ops 0) && allSorted ms ops ops 0)=true) (k:OGS P ops ms (R .normal) n [] [] a L):LSr rd P (.region id opsA true) a L R :=
 fun h H=>LQ.drawn3 hg hmix n hl hm hok (k (ord3_of hm hok).1 h H [] fun _ he=>(by cases he))
end
end Go.Am
end
section
namespace Go.Am
section
variable {P:Program}
theorem HRel.widen {ρ:Env} {h h₁:AW} {w:World} {r n sz:Nat} {e:TypeId} {cs:List Value} {l:Loc} {c:Nat} (H:HRel P ρ h w) (hg:h.get r=some (.cells e cs)) (hl:ρ r=some l) (hs:sizeB P e=some sz) (hc:0+c * l.esz<=l.ext) (hn:cs.length=n * sz) (hnc:n<=c)
  (hp:h.put r (some (.cells e (cs++List.replicate ((c - n) * sz) (.chan none))))=some h₁):HRel P ρ h₁ w:=by
 obtain ⟨hget,hnx,hst⟩:=put_eq hp
 refine ⟨fun m row hm=>?_,?_,by rw [hnx,hst]; exact H.fresh,by rw [hst]; exact H.step⟩
 ·rw [hget] at hm
  split at hm
  ·simp only [Option.some.injEq] at hm
   subst hm; subst_vars
   obtain ⟨l',hl',C,f,h1,h2,h3,h4,h5,h6⟩:=H.loc _ _ hg
   rw [hl] at hl'; simp only [Option.some.injEq] at hl'; subst hl'
   have hesz:l.esz=sz:=by have:=h5.size; rw [hs] at this; simpa using this.symm
   have hmul:n * sz+(c - n) * sz=c * sz:=by rw [← Nat.add_mul]; congr 1; omega
   rw [hesz] at hc
   refine ⟨l,hl,C,f,h1,h2,by simp; omega,h4,h5,fun i v hv=>?_⟩
   by_cases hi:i < cs.length
   ·rw [List.getElem?_append_left hi] at hv; exact h6 i v hv
   ·rw [List.getElem?_append_right (by omega),List.getElem?_replicate] at hv
    split at hv
    ·simp only [Option.some.injEq] at hv; subst hv
     have hlt:l.base+i < C.size:=by omega
     exact ⟨C[l.base+i],Array.getElem?_eq_getElem hlt,.any _⟩
    ·cases hv
  ·exact H.loc m row hm
 ·intro a b rowa rowb la lb ha hb hla hlb hab hown
  rw [hget] at ha hb
  have key:∀ m row,(if m=r then some (ARow.cells e (cs++List.replicate ((c - n) * sz) (.chan none))) else h.get m)=some row->∃ row',h.get m=some row'/\(row.own=true->row'.own=true):=fun m row hm=>by
   split at hm
   ·subst_vars; exact ⟨_,hg,fun _=>rfl⟩
   ·exact ⟨_,hm,id⟩
  obtain ⟨_,ha',oa⟩:=key _ _ ha
  obtain ⟨_,hb',ob⟩:=key _ _ hb
  exact H.inj a b _ _ la lb ha' hb' hla hlb hab (hown.imp oa ob)
theorem Turn.widen {ρ ρ':Env} {h h₁ h':AW} {w w':World} {r:Nat} {row row₁:ARow} (hg:h.get r=some row) (ho:row.own=true) (hp:h.put r (some row₁)=some h₁) (T:Turn ρ h₁ w ρ' h' w'):Turn ρ h w ρ' h' w':=by
 obtain ⟨hget,hnx,hst⟩:=put_eq hp
 refine ⟨T.le,T.os,T.tape,T.output,T.size,fun m row' l hm hmo hl hlt=>?_,fun k hk hno=>T.keep k hk fun m row' l hm hmo hl=>?_,fun m l hm=>?_,?_,by rw [T.steps,hst]⟩
 ·obtain ⟨r₀,row₀,l₀,a,b,c,d⟩:=T.own m row' l hm hmo hl hlt
  rw [hget] at a
  split at a
  ·subst_vars; exact ⟨_,_,l₀,hg,ho,c,d⟩
  ·exact ⟨r₀,row₀,l₀,a,b,c,d⟩
 ·rw [hget] at hm
  split at hm
  ·subst_vars; exact hno _ _ l hg ho hl
  ·exact hno m row' l hm hmo hl
 ·rcases T.new m l hm with h1 | ⟨j,hj⟩
  ·exact .inl h1
  ·exact .inr ⟨j,by rw [hj,hnx,hst]⟩
 ·obtain ⟨j,hj⟩:=T.next
  exact ⟨j,by rw [hj,hnx,hst]⟩
abbrev junk (n:Nat):List Value:=List.replicate n (.chan none)
theorem CS.reveal {f:FuncId} {r n sz:Nat} {e:TypeId} {cs args:List Value} {L:RL} {R:Value->RL->Prop} (hs:sizeB P e=some sz) (hn:cs.length=n * sz)
  (k:∀ c,n<=c->c < openCap->CS P f (.slice (some ⟨r,0,none⟩) n c::args) ((r,.cells e (cs++junk ((c - n) * sz)))::L) R) (hnb:n < openCap):CS P f (.slice (some ⟨r,0,none⟩) n openCap::args) ((r,.cells e cs)::L) R:=by
 intro h H
 have hg:h.get r=some (.cells e cs):=H.get (r,_) (List.mem_cons_self ..)
 have put:∀ c,∃ h₁,h.put r (some (.cells e (cs++junk ((c - n) * sz))))=some h₁/\Has h₁ ((r,.cells e (cs++junk ((c - n) * sz)))::L):=fun c=>by
  obtain ⟨h₁,e₁⟩:=h.put_some r (some (.cells e (cs++junk ((c - n) * sz))))
  exact ⟨h₁,e₁,H.put (i:=0) rfl e₁⟩
 refine ⟨?_,fun ρ us w hus HR=>?_⟩
 ·obtain ⟨h₁,e₁,H₁⟩:=put n
  exact (k n (Nat.le_refl _) hnb h₁ H₁).1
 ·cases hus with
  | cons h1 h2 =>
  cases h1 with
  | @slice _ _ _ _ cap' a hl hc ha =>
  obtain ⟨l,hlr,hrow⟩:=HR.loc r _ hg
  have hcap:∃ c,c=cap'/\c < openCap/\HRel P ρ h w/\(0+c * l.esz<=l.ext):=by
   by_cases hz:cap'=0
   ·subst hz; exact ⟨0,rfl,by decide,HR,by omega⟩
   ·obtain ⟨l',e1,e2,e3⟩:=ha hz
    rw [hlr] at e1; simp only [Option.some.injEq] at e1; subst e1
    obtain ⟨e3,e4⟩:=e3 rfl
    exact ⟨cap',rfl,e4,HR,e3⟩
  obtain ⟨c,rfl,hco,_,hext⟩:=hcap
  obtain ⟨h₁,e₁,H₁⟩:=put c
  have HR₁:=HR.widen hg hlr hs hext hn hl e₁
  refine ((k c hl hco h₁ H₁).2 ρ _ w (.cons (.slice hl (fun _=>rfl) fun hz=>?_) h2) HR₁).mono ?_
  ·obtain ⟨l',e1,e2,e3⟩:=ha hz
   exact ⟨l',e1,e2,fun hh=>by omega⟩
  ·rintro en w' ⟨v,h',u,ρ',e1,e2,e3,e4,T⟩
   exact ⟨v,h',u,ρ',e1,e2,e3,e4,T.widen hg rfl e₁⟩
section
variable {o:Oper} {a a₁:Slots} {L L₁:RL} {x y z:Operand} {t z':TypeId}
theorem e_cap {c:Call} {n cap:Nat} {base:Option Addr} {tm e:TypeId} (ho:o.op=.call c) (hc:c.callee=.builtin .cap) (ha:evs a c.args.toList=some [.slice base n cap]) (ht:c.argTypes[0]?=some tm) (hu:P.underlying tm=some (.slice e)) (hne:cap < openCap):∀ h,opB P a o h=some (.val (.int .i64 (cap:Nat)) h):=by
 intro h
 have hb:Nat.beq cap openCap=false:=beq_false (by omega)
 simp only [opB,ho,ha,callOpB,hc,capB,ht,hu,hb,ret,goInt]
theorem e_clear (i:Nat) {c:Call} {n cap r off:Nat} {tm e e':TypeId} {cs cs' zs:List Value} {sz:Nat} (ho:o.op=.call c) (hc:c.callee=.builtin .clear) (ha:evs a c.args.toList=some [.slice (some ⟨r,off,none⟩) n cap]) (ht:c.argTypes[0]?=some tm) (hu:P.underlying tm=some (.slice e))
  (hn:1<=n) (hL:L[i]?=some (r,.cells e' cs)) (hz:zerosB P e=some zs) (hs:sizeB P e=some sz) (hzl:zs.length=sz) (hs1:1<=sz) (hone:allOne (repL zs n)=true) (hlay:lay cs off (repL zs n)=some cs') (hset:setL L i (r,.cells e' cs')=some L₁) :
  ∀ h,Has h L->∃ h₁,opB P a o h=some (.val (.tuple #[]) h₁)/\Has h₁ L₁:=by
 intro h H
 obtain ⟨h₁,e₁⟩:=h.put_some r (some (.cells e' cs'))
 have:=setL_eq hset
 subst this
 have h0:Nat.beq n 0=false:=beq_false (by omega)
 have hz1:Nat.beq zs.length sz=true:=beq_true hzl
 have hs2:Nat.ble 1 sz=true:=Nat.ble_eq_true_of_le hs1
 refine ⟨h₁,?_,H.put hL e₁⟩
 have e:clearB P c.argTypes [.slice (some ⟨r,off,none⟩) n cap] h=some (.tuple #[],h₁):=by
  unfold clearB
  simp only [ht,hu,h0,H.row hL,hz,hs,hz1,hs2,Bool.and_self,rep_of,hone,hlay,e₁]
 simp only [opB,ho,ha,callOpB,hc,e,ret2]
theorem e_two {op:BinOp} {b:Bool} (hop:(op=.eql/\b=false)∨(op=.neq/\b=true)) {r r' off off' n:Nat} {e e' el:TypeId} {cs cs':List Value} (ho:o.op=.binOp op t x y z') (hx:aev a x=some (.pointer (some ⟨r,off,none⟩))) (hy:aev a y=some (.pointer (some ⟨r',off',none⟩))) (hu:P.underlying t=some (.pointer el)) (hz:sizeB P el=some (n+1))
  (h1:(r,.cells e cs)∈L) (h2:(r',.cells e' cs')∈L) (hne:r≠r') (u1:isU8 P e=false) (u2:isU8 P e'=false):∀ h,Has h L->opB P a o h=some (.val (.bool b) h):=by
 intro h H
 have g1:getRow h r=some (e,cs):=by unfold getRow; rw [H.get _ h1]
 have g2:getRow h r'=some (e',cs'):=by unfold getRow; rw [H.get _ h2]
 have hb:Nat.beq r r'=false:=beq_false hne
 have hq:eqB P 100 t (.pointer (some ⟨r,off,none⟩)) (.pointer (some ⟨r',off',none⟩))=none:=by simp only [eqB,hu,hb,Bool.false_and]
 have h2':twoB P t (.pointer (some ⟨r,off,none⟩)) (.pointer (some ⟨r',off',none⟩)) h=true:=by simp only [twoB,hu,g1,g2,hz,hb,u1,u2,Bool.not_false,Bool.and_self]
 rcases hop with ⟨rfl,rfl⟩ | ⟨rfl,rfl⟩
 ·simp only [opB,ho,hx,hy,eqOk,binB,hq,h2',ret]
 ·simp only [opB,ho,hx,hy,eqOk,binB,hq,h2',ret]
end
def ExtH (P:Program) (f:FuncId) (args:List Value) (v:Value) (h:AW):Prop :=
 ∃ fn ex,P.funcs[f]?=some fn/\(fn.name == "runtime.NumGoroutine")=false/\fn.body.isNone=true/\Extern.findNext fn=none/\Extern.find fn=some ex/\∀ (ρ:Env) us w,LRel ρ args us->HRel P ρ h w->∃ u,(ex ⟨us⟩).run P w=.ok u w/\VRel ρ v u
theorem OQ.extH {ops rest:List Oper} {o:Oper} {a a₁:Slots} {h:AW} {v:Value} {K:Slots->AW->Prop} {f:FuncId} {args:List Value} (hx:ExtH P f args v h) (hw:wantedB ops o a=true) (e:opB P a o h=some (.call f args)) (ep:putAt a o.dst v=some a₁) (k:OQ P ops rest a₁ h K):OQ P ops (o::rest) a h K:=by
 intro ro ds opsA i ρ act w Q ho hd hr hdf H hQ
 obtain ⟨hoi,hrest⟩:=drop_at ho hd
 simp only [List.length_cons,List.range'_succ,wpOpsIn,hoi]
 rw [← wantedB_eq hr (by rw [ho]; exact sure_of_wanted hw),ho,hw,if_pos rfl]
 obtain ⟨us,hus,hrun⟩:=opB_sound hr H e
 obtain ⟨fn,ex,hf,hname,hb,hn,he,hx⟩:=hx
 obtain ⟨u,hex,hv⟩:=hx ρ us w hus H
 have hnext:=k ro _ _ _ _ _ _ Q ho hrest (putAt_rel ep hr hv) (by rw [put_defers]; exact hdf) H hQ
 refine ⟨fun _ _=>trivial,?_⟩
 rw [Oper.semAt_eq _ _ _ (opB_noDefer e),hrun,run_callFunc_extern hf hname hb hn he,hex]
 exact hnext
theorem OS.extH {ops rest:List Oper} {o:Oper} {a a₁:Slots} {L:RL} {K:Slots->RL->Prop} {f:FuncId} {args:List Value} {v:Value} (hx:∀ h,Has h L->ExtH P f args v h) (hw:wantedB ops o a=true) (e:∀ h,opB P a o h=some (.call f args)) (ep:putAt a o.dst v=some a₁) (k:OS P ops rest a₁ L K):OS P ops (o::rest) a L K :=
 fun h H=>OQ.extH (hx h H) hw (e h) ep (k h H)
theorem ext_overlaps {f:FuncId} {fn:Func} {tS tR e e₁ e₂:TypeId} {L:RL} {r r' o o' n n' c c' sz:Nat} {cs cs':List Value} (hf:P.funcs[f]?=some fn) (hname:(fn.name == "runtime.NumGoroutine")=false) (hb:fn.body.isNone=true) (hn:Extern.findNext fn=none)
  (he:Extern.find fn=some (Extern.SlicesOverlaps.overlaps #[tS,tS] #[tR])) (hu:P.underlying tS=some (.slice e)) (hz:sizeB P e=some sz) (h1:(r,.cells e₁ cs)∈L) (h2:(r',.cells e₂ cs')∈L) (hne:r≠r') (u1:isU8 P e₁=false) (u2:isU8 P e₂=false) (hn1:1<=n) (hn2:1<=n') (hne':cs'≠[]) :
  ∀ h,Has h L->ExtH P f [.slice (some ⟨r,o,none⟩) n c,.slice (some ⟨r',o',none⟩) n' c'] (.bool false) h:=by
 intro h H
 refine ⟨fn,_,hf,hname,hb,hn,he,fun ρ us w hus HR=>?_⟩
 have g1:getRow h r=some (e₁,cs):=by unfold getRow; rw [H.get _ h1]
 have g2:getRow h r'=some (e₂,cs'):=by unfold getRow; rw [H.get _ h2]
 obtain ⟨l,C,f1,hl,hb1,hf1,a1,a2,_⟩:=HR.at_plain g1 u1
 obtain ⟨l',C',f2,hl',hb2,hf2,b1,b2,_⟩:=HR.at_plain g2 u2
 have hblk:l.block≠l'.block:=fun hh=>hne (HR.inj r r' _ _ l l' (getRow_eq g1) (getRow_eq g2) hl hl' hh (.inl rfl))
 cases hus with
 | cons p1 hus =>
 cases hus with
 | cons p2 hus =>
 cases hus
 cases p1 with
 | @slice _ _ _ _ k1 ad1 q1 q2 q3 =>
 cases p2 with
 | @slice _ _ _ _ k2 ad2 s1 s2 s3 =>
 obtain ⟨l₁,t1,t2,_⟩:=q3 (by omega)
 obtain ⟨l₂,t3,t4,_⟩:=s3 (by omega)
 rw [hl] at t1; rw [hl'] at t3
 simp only [Option.some.injEq] at t1 t3
 subst t1; subst t3; subst t2; subst t4
 have hsa:w.shape? l.block=some (e₁,C.size):=by simp [World.shape?,hb1]
 have hsb:w.shape? l'.block=some (e₂,C'.size):=by simp [World.shape?,hb2]
 have hk:C'.size≠0:=by
  have:0 < cs'.length:=List.length_pos_iff.2 hne'
  omega
 refine ⟨.bool false,?_,.bool _⟩
 exact Lib.run_overlaps_apart w tS tR e hu sz (run_size hz) _ _ _ _ _ _ hblk _ _ _ _ hsa hsb hk (frozen_off hb1 hf1) (frozen_off hb1 hf1)
end
end Go.Am
end
section
namespace Go.Proofs.YtlmmddfhoabjfaaGreat
def grp (u:Nat):List UInt8:=if u < 128 then [UInt8.ofNat u] else UInt8.ofNat (u % 128+128)::grp (u / 128)
termination_by u
decreasing_by omega
theorem grp_lt {u:Nat} (h:u < 128):grp u=[UInt8.ofNat u]:=by rw [grp,if_pos h]
theorem grp_ge {u:Nat} (h:128<=u):grp u=UInt8.ofNat (u % 128+128)::grp (u / 128):=by rw [grp,if_neg (by omega)]
theorem grp_pos (u:Nat):0 < (grp u).length:=by
 by_cases h:u < 128
 ·rw [grp_lt h]; simp
 ·rw [grp_ge (by omega)]; simp
theorem toNat_of {n:Nat} (h:n < 256):(UInt8.ofNat n).toNat=n:=by simp; omega
theorem grp_len {k u:Nat} (hk:0 < k) (h:u < 128 ^ k):(grp u).length<=k:=by
 induction k generalizing u with
 | zero=>omega
 | succ k ih =>
  by_cases hu:u < 128
  ·rw [grp_lt hu]; simp
  ·rw [grp_ge (by omega)]
   have hk0:0 < k:=by
    rcases Nat.eq_zero_or_pos k with h0 | h0
    ·subst h0; simp at h; omega
    ·exact h0
   have:u / 128 < 128 ^ k:=by rw [Nat.div_lt_iff_lt_mul (by omega)]; rw [Nat.pow_succ] at h; exact h
   have:=ih hk0 this
   simp; omega
def gGo (i u:Nat):List UInt8->Nat × Nat
 | []=>(0,0)
 | c::r =>
  if i=9/\1 < c.toNat then (0,0)
  else if 128<=c.toNat then gGo (i+1) (u+c.toNat % 128 * 128 ^ i) r
  else if c.toNat=0/\0 < i then (0,0)
  else (u+c.toNat % 128 * 128 ^ i,i+1)
def gat (bs:List UInt8):Nat × Nat:=gGo 0 0 bs
theorem pow9:(128:Nat) ^ 9=9223372036854775808:=by decide
theorem gGo_inv (bs:List UInt8):∀ i u,i<=9->u < 128 ^ i->gGo i u bs=(0,0) ∨
  ∃ m,grp m <+: bs/\gGo i u bs=(m * 128 ^ i+u,i+(grp m).length)/\m * 128 ^ i+u < 18446744073709551616/\(i=0∨m≠0):=by
 induction bs with
 | nil=>intro i u _ _; exact .inl rfl
 | cons c r ih =>
  intro i u hi hu
  have hcb:=c.toNat_lt
  unfold gGo
  by_cases h1:i=9/\1 < c.toNat
  ·rw [if_pos h1]; exact .inl rfl
  rw [if_neg h1]
  have hpow:128 ^ (i+1)=128 ^ i * 128:=Nat.pow_succ ..
  have hmul:c.toNat % 128 * 128 ^ i<=127 * 128 ^ i:=Nat.mul_le_mul_right _ (by omega)
  have hp9:128 ^ i<=128 ^ 9:=Nat.pow_le_pow_right (by omega) hi
  by_cases h2:128<=c.toNat
  ·rw [if_pos h2]
   have hi9:i≠9:=by omega
   rcases ih (i+1) (u+c.toNat % 128 * 128 ^ i) (by omega) (by rw [hpow]; omega) with h | ⟨m,hp,he,hlt,hm⟩
   ·exact .inl h
   ·right
    have hm0:m≠0:=by omega
    have hg:grp (m * 128+c.toNat % 128)=c::grp m:=by
     rw [grp_ge (by omega)]
     congr 1
     ·apply UInt8.toNat_inj.1
      rw [toNat_of (by omega)]
      omega
     ·congr 1; omega
    have key:(m * 128+c.toNat % 128) * 128 ^ i+u=m * 128 ^ (i+1)+(u+c.toNat % 128 * 128 ^ i):=by
     rw [hpow,Nat.add_mul,Nat.mul_assoc,Nat.mul_comm 128 (128 ^ i)]
     omega
    refine ⟨m * 128+c.toNat % 128,?_,?_,by rw [key]; exact hlt,.inr (by omega)⟩
    ·rw [hg]; exact List.cons_prefix_cons.2 ⟨rfl,hp⟩
    ·rw [he,key,hg]; simp; omega
  ·rw [if_neg h2]
   by_cases h3:c.toNat=0/\0 < i
   ·rw [if_pos h3]; exact .inl rfl
   ·rw [if_neg h3]
    right
    refine ⟨c.toNat,?_,?_,?_,by omega⟩
    ·rw [grp_lt (by omega)]
     refine List.cons_prefix_cons.2 ⟨?_,List.nil_prefix⟩
     apply UInt8.toNat_inj.1
     rw [toNat_of (by omega)]
    ·rw [grp_lt (by omega),Nat.mod_eq_of_lt (by omega)]; simp [Nat.add_comm]
    ·rw [pow9] at hp9
     by_cases hi9:i=9
     ·subst hi9
      rw [pow9] at *
      have:c.toNat * 9223372036854775808<=1 * 9223372036854775808:=Nat.mul_le_mul_right _ (by omega)
      omega
     ·have h8:128 ^ i<=128 ^ 8:=Nat.pow_le_pow_right (by omega) (by omega)
      have:c.toNat * 128 ^ i<=127 * 128 ^ 8:=Nat.mul_le_mul (by omega) h8
      have e8:(128:Nat) ^ 8=72057594037927936:=by decide
      rw [e8] at this h8
      omega
theorem gat_inv (bs:List UInt8):gat bs=(0,0)∨∃ u,grp u <+: bs/\gat bs=(u,(grp u).length)/\u < 18446744073709551616:=by
 rcases gGo_inv bs 0 0 (by omega) (by simp) with h | ⟨m,hp,he,hlt,_⟩
 ·exact .inl h
 ·exact .inr ⟨m,hp,by simpa [gat] using he,by simpa using hlt⟩
theorem gat_lt (bs:List UInt8):(gat bs).1 < 18446744073709551616:=by
 rcases gat_inv bs with h | ⟨u,_,h,hl⟩
 ·rw [h]; decide
 ·rw [h]; exact hl
theorem gat_len (bs:List UInt8):(gat bs).2<=bs.length:=by
 rcases gat_inv bs with h | ⟨u,hp,h,hl⟩
 ·rw [h]; simp
 ·rw [h]; exact hp.length_le
theorem gat_small (bs:List UInt8):(gat bs).2<=10:=by
 rcases gat_inv bs with h | ⟨u,hp,h,hl⟩
 ·rw [h]; simp
 ·rw [h]; exact grp_len (by omega) (by omega)
def cAt (bs:List UInt8) (most:Int):Nat × Nat:=if 0<=most/\((gat bs).1:Int)<=most/\(gat bs).1<=2147483647 then gat bs else (0,0)
theorem cAt_yes {bs:List UInt8} {most:Int} (h0:0<=most) (h1:((gat bs).1:Int)<=most) (h2:(gat bs).1<=2147483647):cAt bs most=gat bs:=if_pos ⟨h0,h1,h2⟩
theorem cAt_no {bs:List UInt8} {most:Int} (h:most < 0∨most < ((gat bs).1:Int)∨2147483647 < (gat bs).1):cAt bs most=(0,0):=if_neg (by omega)
theorem cAt_le (bs:List UInt8) (most:Int):(cAt bs most).1<=2147483647/\(cAt bs most).2<=10/\(cAt bs most).2<=bs.length:=by
 unfold cAt
 split
 ·exact ⟨by omega,gat_small bs,gat_len bs⟩
 ·simp
def sAt (bs:List UInt8) (most:Int):List UInt8 × Nat :=
 if (cAt bs most).2=0∨bs.length < (cAt bs most).2+(cAt bs most).1 then ([],0)
 else ((bs.drop (cAt bs most).2).take (cAt bs most).1,(cAt bs most).2+(cAt bs most).1)
theorem sAt_eq {bs:List UInt8} {most:Int} {m hd:Nat} (h:cAt bs most=(m,hd)):sAt bs most=if hd=0∨bs.length < hd+m then ([],0) else ((bs.drop hd).take m,hd+m):=by
 unfold sAt
 rw [h]
def fAt:List UInt8->Bool × Nat
 | []=>(false,0)
 | c::_=>if 1 < c.toNat then (false,0) else (c == 1,1)
end Go.Proofs.YtlmmddfhoabjfaaGreat
end
namespace Go.Am
abbrev jn:Value:=.chan none
theorem rh{α β:Type}{f:α → β}:∀ x,f x=f x:=fun _=>rfl
theorem e_ib{P:Program}{a:Slots}{o:Oper}{b b':Bool}(e:∀ h,opB P a o h=some (.val (.bool b) h))(hb:b=b'):∀ h,opB P a o h=some (.val (.bool b') h):=hb ▸ e
end Go.Am
theorem Go.Proofs.YtlmmddfhoabjfaaGreat.T.tt:True:=trivial
