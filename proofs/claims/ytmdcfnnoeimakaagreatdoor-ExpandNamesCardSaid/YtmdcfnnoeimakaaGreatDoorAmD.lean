/- The abstract machine: regions, code, calls. -/
import Derived.Test.YtmdcfnnoeimakaaGreatDoorAmM
import Derived.Below
import Derived.Orders
import Derived.Laws.Externs
import Derived.RangeFuncRecord
import Derived.OrdersIn
import Derived.Maps.RangeRun

/- The abstract machine: regions, code, calls. -/
namespace Go.Am
set_option linter.unusedVariables false
section
variable {P : Program}

/-- What a call is known to come to is so, in every world that is as the rows. -/
def Sound (P : Program) (call : FuncId → List Value → AW → Option (Value × AW)) : Prop :=
  ∀ f args h v h', call f args h = some (v, h') → (∃ fn c, P.funcs[f]? = some fn ∧ fn.body = some c) ∧ ∀ ρ us w, LRel ρ args us → HRel P ρ h w →
    Calls P f ⟨us⟩ w fun e w' => ∃ u ρ', e = .returned u ∧ VRel ρ' v u ∧ HRel P ρ' h' w' ∧ Turn ρ h w ρ' h' w'

def noGo (P : Program) : Bool := P.funcs.toList.all fun fn => !(fn.name == "runtime.NumGoroutine")

theorem run_callFunc (hg : noGo P = true) {f : FuncId} {fn : Func} {c : Code} (hf : P.funcs[f]? = some fn) (hb : fn.body = some c) (args : Array Value) (w : World) : (callFunc f args).run P w = .ok (.enter f args) w := by
  have hn : (fn.name == "runtime.NumGoroutine") = false := by
    have hm : fn ∈ P.funcs.toList := by
      obtain ⟨hlt, he⟩ := Array.getElem?_eq_some_iff.1 hf
      exact Array.mem_toList_iff.2 (he ▸ Array.getElem_mem hlt)
    have := List.all_eq_true.1 hg fn hm
    simpa using this
  have hn' : ¬ fn.name = "runtime.NumGoroutine" := by simpa using hn
  simp [callFunc, hf, hn', hb]

theorem setAt_rel {ρ : Env} : ∀ {a a' : Slots} {us : List Value} {d : Nat} {v u : Value}, setAt a d v = some a' → LRel ρ a us → VRel ρ v u → LRel ρ a' (us.set d u)
  | [], a', us, d, v, u, e, _, _ => by simp [setAt] at e
  | x :: xs, a', us, 0, v, u, e, hr, hv => by
    simp [setAt] at e; subst e
    cases hr with
    | cons h1 h2 => exact .cons hv h2
  | x :: xs, a', us, d + 1, v, u, e, hr, hv => by
    simp only [setAt] at e
    split at e
    · rename_i ys ey
      simp at e; subst e
      cases hr with
      | cons h1 h2 => exact .cons h1 (setAt_rel ey h2 hv)
    · cases e
theorem putAt_rel {ρ : Env} {a a' : Slots} {act : Act} {d : Option Tmp} {v u : Value} (e : putAt a d v = some a') (hr : LRel ρ a act.tmps.toList) (hv : VRel ρ v u) : LRel ρ a' (act.put d u).tmps.toList := by
  cases d with
  | none => simp [putAt] at e; subst e; exact hr
  | some d =>
    simp only [putAt] at e
    simp only [Act.put, Array.toList_setIfInBounds]
    exact setAt_rel e hr hv
theorem put_defers {act : Act} {d : Option Tmp} {u : Value} : (act.put d u).defers = act.defers := by cases d <;> rfl

theorem wantedB_eq {ρ : Env} {a : Slots} {act : Act} {ops : Array Oper} {o : Oper} (hr : LRel ρ a act.tmps.toList) (hs : sureB ops.toList o a = true) : wantedB ops.toList o a = Region.wanted o (yielded ops act.tmps) := by
  unfold sureB at hs
  unfold wantedB Region.wanted
  cases hg : o.guard with
  | none => rfl
  | some g =>
    obtain ⟨j, want⟩ := g
    rw [hg] at hs
    simp only [yielded, Array.getElem?_toList] at hs ⊢
    cases hp : ops[j]? with
    | none => rfl
    | some p =>
      rw [hp] at hs
      simp only [Option.bind_some] at hs ⊢
      cases hd : p.dst with
      | none => rfl
      | some d =>
        rw [hd] at hs
        simp only [Option.bind_some] at hs ⊢
        cases ha : a[d]? with
        | none =>
          have hlen := hr.length
          have : act.tmps[d]? = none := by
            rw [List.getElem?_eq_none_iff] at ha
            rw [Array.getElem?_eq_none_iff]
            simp at hlen; omega
          rw [this]; rfl
        | some v =>
          obtain ⟨u, hu, hv⟩ := hr.get ha
          rw [Array.getElem?_toList] at hu
          rw [hu]
          rw [ha] at hs
          cases hv <;> first | (simp [isJ] at hs; done) | rfl | (rename_i b; cases b <;> cases want <;> rfl)
theorem sure_of_wanted {ops : List Oper} {o : Oper} {a : Slots} (h : wantedB ops o a = true) : sureB ops o a = true := by
  unfold wantedB at h
  unfold sureB
  cases hg : o.guard with
  | none => rfl
  | some g =>
    obtain ⟨j, want⟩ := g
    rw [hg] at h
    simp only at h ⊢
    cases hp : ops[j]? with
    | none => rfl
    | some p =>
      rw [hp] at h
      simp only at h ⊢
      cases hd : p.dst with
      | none => rfl
      | some d =>
        rw [hd] at h
        simp only at h ⊢
        cases ha : a[d]? with
        | none => rfl
        | some v =>
          rw [ha] at h
          cases v <;> first | rfl | (simp at h; done)
theorem skip_iff {ops : List Oper} {o : Oper} {a : Slots} : skipB ops o a = true ↔ wantedB ops o a = false ∧ sureB ops o a = true := by
  unfold skipB; rw [Bool.and_eq_true, Bool.not_eq_true']

theorem runOps_sound {call : FuncId → List Value → AW → Option (Value × AW)} (hg : noGo P = true) (hc : Sound P call) (ops : Array Oper) : ∀ (rest : List Oper) (i : Nat) {a a' : Slots} {h h' : AW}, ops.toList.drop i = rest → runOps P call ops.toList rest a h = some (a', h') →
    ∀ {ρ : Env} {act : Act} {w : World} {Q : Exit → Act → World → Prop}, LRel ρ a act.tmps.toList → act.defers = [] → HRel P ρ h w →
    (∀ ρ' act' w', LRel ρ' a' act'.tmps.toList → act'.defers = [] → HRel P ρ' h' w' → Turn ρ h w ρ' h' w' → Q .normal act' w') → wpOps P ops Q (List.range' i rest.length) act w
  | [], i, a, a', h, h', _, e, ρ, act, w, Q, hr, hd, H, hQ => by
    simp [runOps] at e
    obtain ⟨rfl, rfl⟩ := e
    exact hQ ρ act w hr hd H (Turn.refl _ _ _)
  | o :: rest, i, a, a', h, h', hdrop, e, ρ, act, w, Q, hr, hd, H, hQ => by
    have ho : ops[i]? = some o := by
      rw [← Array.getElem?_toList]
      have : (ops.toList.drop i)[0]? = some o := by rw [hdrop]; rfl
      rwa [List.getElem?_drop, Nat.add_zero] at this
    have hrest : ops.toList.drop (i + 1) = rest := by
      rw [← List.drop_drop, hdrop]; rfl
    simp only [List.length_cons, List.range'_succ, wpOps, ho]
    simp only [runOps] at e
    split at e
    case h_1 hw =>
      rw [← wantedB_eq hr (sure_of_wanted hw), hw, if_pos rfl]
      left
      split at e
      case h_1 v h₁ hop =>
        split at e
        case h_2 => cases e
        rename_i v' hv'
        have := fv_eq hv'
        subst this
        split at e
        case h_2 => cases e
        rename_i a₁ hput
        obtain ⟨n, u, w₁, ρ₁, hrun, hn, hv, H₁, T₁⟩ := opB_sound hr H hop
        have hnext := runOps_sound (Q := Q) hg hc ops rest (i + 1) hrest e (putAt_rel hput (hr.mono T₁.le) hv) (by rw [put_defers]; exact hd) H₁ (fun ρ' act' w' a b c d => hQ ρ' act' w' a b c (T₁.trans d))
        unfold Oper.wp
        rw [hrun]
        rcases hn with rfl | ⟨rfl, rfl⟩ <;> exact hnext
      case h_2 f args hop =>
        split at e
        case h_2 => cases e
        rename_i v h₁ hcall
        split at e
        case h_2 => cases e
        rename_i a₁ hput
        obtain ⟨us, hus, hrun⟩ := opB_sound hr H hop
        obtain ⟨⟨fn, c, hf, hb⟩, hcalls⟩ := hc f args h v h₁ hcall
        unfold Oper.wp
        rw [hrun, run_callFunc hg hf hb]
        simp only [Oper.upon]
        refine (hcalls ρ us w hus H).mono ?_
        rintro en w₁ ⟨u, ρ₁, rfl, hv, H₁, T₁⟩
        exact runOps_sound (Q := Q) hg hc ops rest (i + 1) hrest e (putAt_rel hput (hr.mono T₁.le) hv) (by rw [put_defers]; exact hd) H₁ (fun ρ' act' w' a b c d => hQ ρ' act' w' a b c (T₁.trans d))
      case h_3 => cases e
    case h_2 hw =>
      split at e
      case h_2 => cases e
      rename_i hsure
      rw [← wantedB_eq hr hsure, hw, if_neg (by simp)]
      split at e
      case h_2 => cases e
      rename_i a₁ hput
      exact runOps_sound (Q := Q) hg hc ops rest (i + 1) hrest e (putAt_rel hput hr undef_rel) (by rw [put_defers]; exact hd) H hQ

theorem wp_loop_n {c : Code} {Q : Exit → Act → World → Prop} (J : Nat → Act → World → Prop) {n : Nat} {a : Act} {w : World} (h₀ : J n a w)
    (round : ∀ n a w, J n a w → c.wp P (Exit.then (fun a' w' => ∃ m, m < n ∧ J m a' w') Q) a w) : (Code.loop c).wp P Q a w := by
  intro b k cs
  have key : ∀ n a w, J n a w → ∃ e a' w', Q e a' w' ∧ Arrives P (lone (b.at a (.code c :: .inLoop c :: k)) cs w) b k cs e a' w' := by
    intro n
    induction n using Nat.strongRecOn with
    | _ n ih =>
      intro a w hI
      obtain ⟨e, a₁, w₁, hq, harr⟩ := round n a w hI b (.inLoop c :: k) cs
      cases e with
      | normal =>
        obtain ⟨m, hm, hJ⟩ := hq
        obtain ⟨e₂, a₂, w₂, hq₂, harr₂⟩ := ih m hm a₁ w₁ hJ
        exact ⟨e₂, a₂, w₂, hq₂, .of_steps (Steps.trans harr (.one step_inLoop)) harr₂⟩
      | exit id => exact ⟨_, a₁, w₁, hq, .pass (x := .inLoop c) rfl (fun _ _ => .inl (by simp)) harr⟩
      | goto l => exact ⟨_, a₁, w₁, hq, .pass (x := .inLoop c) rfl (fun _ _ => .inl (by simp)) harr⟩
      | ret => exact ⟨_, a₁, w₁, hq, .pass (x := .inLoop c) rfl (fun _ _ => .inl (by simp)) harr⟩
      | panic ch => exact ⟨_, a₁, w₁, hq, .pass (x := .inLoop c) rfl (fun _ _ => .inl (by simp)) harr⟩
      | outgrown => exact ⟨_, a₁, w₁, hq, .pass (x := .inLoop c) rfl (fun _ _ => .inl (by simp)) harr⟩
  obtain ⟨e, a', w', hq, harr⟩ := key n a w h₀
  exact ⟨e, a', w', hq, .of_steps (.one step_loop) harr⟩
end
end Go.Am

/- The abstract machine: regions that draw their order. -/
namespace Go.Am
set_option linter.unusedVariables false
section
variable {P : Program}

/-! ### What an operation depends on -/
theorem evs_congr {a a' : Slots} : ∀ {xs : List Operand}, (∀ x ∈ xs, aev a x = aev a' x) → evs a xs = evs a' xs
  | [], _ => rfl
  | x :: xs, h => by simp only [evs, h x (by simp), evs_congr (xs := xs) (fun y hy => h y (by simp [hy]))]
theorem evParts_congr {a a' : Slots} : ∀ {xs : List (Nat × Operand)}, (∀ x ∈ xs.map (·.2), aev a x = aev a' x) → evParts a xs = evParts a' xs
  | [], _ => rfl
  | (i, x) :: xs, h => by simp only [evParts, h x (by simp), evParts_congr (xs := xs) (fun y hy => h y (by simp at hy ⊢; exact .inr hy))]
theorem opB_congr {a a' : Slots} {o : Oper} {h : AW} (hx : ∀ x ∈ o.op.operands, aev a x = aev a' x) : opB P a o h = opB P a' o h := by
  obtain ⟨dst, op, type, pos, after, guard⟩ := o
  cases op <;> simp only [Op.operands] at hx <;> simp only [opB]
  case build t ps => rw [evParts_congr fun x hm => hx x (by simpa using hm)]
  case buildSlice t n ps => rw [evParts_congr fun x hm => hx x (by simpa using hm)]
  case makeFunc fn first captured => rw [evs_congr (xs := first.toList) fun x hm => hx x (by simp at hm; simp [hm]), evs_congr (xs := captured.toList) fun x hm => hx x (by simp at hm; simp [hm])]
  case slice t x lo hi mx => cases lo <;> cases hi <;> cases mx <;> simp_all [optEv]
  case makeMap t r => cases r <;> simp_all [optEv]
  case call c =>
    rw [evs_congr (xs := c.args.toList) fun x hm => hx x (by simp at hm; simp [Call.operands, hm])]
    cases evs a' c.args.toList with
    | none => rfl
    | some args =>
      simp only [callOpB]
      cases hc : c.callee with
      | value f => simp only [hx f (by simp [Call.operands, hc])]
      | invoke r m => simp only [hx r (by simp [Call.operands, hc])]
      | builtin b => cases b <;> rfl
  all_goals (first | rfl | (simp_all; done))

theorem opB_read {a : Slots} {o : Oper} {h : AW} {res : Res} (hr : readOp P o.op = true) (e : opB P a o h = some res) : ∃ v, res = .val v h := by
  have key : ∀ {x : Option Value}, ret x h = some res → ∃ v, res = .val v h := fun e => by
    obtain ⟨v, _, rfl⟩ := ret_val e; exact ⟨v, rfl⟩
  unfold opB at e
  split at e
  case h_13 src dst x ho =>
    rw [ho] at hr
    split at e
    case h_2 => cases e
    obtain ⟨v, h', hv, rfl⟩ := ret2_val e
    refine ⟨v, ?_⟩
    simp only [readOp] at hr
    unfold convB at hv
    split at hv
    case h_3 h1 h2 h3 => rw [h1, h2] at hr; simp at hr
    all_goals (first | (cases hv; done) | skip)
    · simp at hv; rw [hv.2]
    · simp at hv; rw [hv.2]
    · split at hv
      · split at hv
        · simp at hv; rw [hv.2]
        · cases hv
      · cases hv
    · split at hv
      · simp at hv; rw [hv.2]
      · cases hv
    · split at hv
      · simp at hv; rw [hv.2]
      · split at hv
        · split at hv
          · split at hv
            · simp at hv; rw [hv.2]
            · cases hv
          · cases hv
        · cases hv
      · cases hv
    · split at hv
      · split at hv
        · simp at hv; rw [hv.2]
        · cases hv
      · cases hv
    · split at hv
      · split at hv
        · simp at hv; rw [hv.2]
        · split at hv
          · simp at hv; rw [hv.2]
          · cases hv
      · cases hv
  case h_23 c ho =>
    rw [ho] at hr
    simp only [readOp] at hr
    split at e
    case h_2 => cases e
    unfold callOpB at e
    split at e
    case h_1 hc => rw [hc] at hr; simp at hr
    case h_2 => exact key e
    case h_3 => split at e
                · exact key e
                · cases e
    case h_4 => split at e
                · exact key e
                · cases e
    case h_5 hc => rw [hc] at hr; simp at hr
    case h_6 hc => rw [hc] at hr; simp at hr
    case h_7 hc => rw [hc] at hr; simp at hr
    case h_8 hc => rw [hc] at hr; simp at hr
    case h_9 => exact key e
    case h_10 hc => rw [hc] at hr; simp at hr
    case h_11 hc => rw [hc] at hr; simp at hr
    case h_12 hc => rw [hc] at hr; simp at hr
    case h_13 => cases e
  case h_4 ho => rw [ho] at hr; simp [readOp] at hr
  case h_5 ho => rw [ho] at hr; simp [readOp] at hr
  case h_7 ho => rw [ho] at hr; simp [readOp] at hr
  case h_9 ho => rw [ho] at hr; simp [readOp] at hr
  case h_16 ho => rw [ho] at hr; simp [readOp] at hr
  case h_25 ho => rw [ho] at hr; simp [readOp] at hr
  case h_26 ho => rw [ho] at hr; simp [readOp] at hr
  case h_27 ho => rw [ho] at hr; simp [readOp] at hr
  case h_28 ho => rw [ho] at hr; simp [readOp] at hr
  case h_29 ho => rw [ho] at hr; simp [readOp] at hr
  case h_30 ho => rw [ho] at hr; simp [readOp] at hr
  case h_32 => cases e
  case h_10 => split at e
               · simp at e; exact ⟨_, e.symm⟩
               · cases e
  case h_14 => split at e
               · cases e
               · simp at e; exact ⟨_, e.symm⟩
               · cases e
  case h_15 => split at e
               · split at e
                 · simp at e; exact ⟨_, e.symm⟩
                 · cases e
               · cases e
  all_goals (first | exact key e | (split at e <;> first | exact key e | (cases e; done) | (split at e <;> first | exact key e | (cases e; done))))

/-! ### Sameness -/
theorem sameFlat_eq {x y : Value} (e : sameFlat x y = true) : x = y := by
  unfold sameFlat at e
  split at e
  · simpa using e
  · simp only [Bool.and_eq_true, ieqB_eq, beq_iff_eq] at e; rw [e.1, e.2]
  · rename_i a b
    rw [bytesEq_eq] at e
    have : a.data.toList = b.data.toList := by simpa using e
    have : a = b := by apply ByteArray.ext; exact Array.ext' this
    rw [this]
  · rfl
  · simp only [Bool.and_eq_true] at e; rw [of_beq e.1, of_beq e.2]
  · simp only [Bool.and_eq_true] at e; rw [of_beq e.1, of_beq e.2]
  · simp only [Bool.and_eq_true] at e; rw [of_beq e.1.1, of_beq e.1.2, of_beq e.2.1, of_beq e.2.2]
  · rfl
  · rw [of_beq e]
  · rfl
  · rfl
  · cases e
theorem sameAll_eq : ∀ {xs ys : List Value}, sameAll xs ys = true → xs = ys
  | [], [], _ => rfl
  | [], _ :: _, e => by simp [sameAll] at e
  | _ :: _, [], e => by simp [sameAll] at e
  | x :: xs, y :: ys, e => by
    simp only [sameAll, Bool.and_eq_true] at e
    rw [sameFlat_eq e.1, sameAll_eq e.2]
theorem sameB_eq {x y : Value} (e : sameB x y = true) : x = y := by
  unfold sameB at e
  split at e
  · rw [Array.ext' (sameAll_eq e)]
  · rw [Array.ext' (sameAll_eq e)]
  · simp only [Bool.and_eq_true] at e; rw [of_beq e.1, sameFlat_eq e.2]
  · simp only [Bool.and_eq_true] at e; rw [of_beq e.1, Array.ext' (sameAll_eq e.2.1), Array.ext' (sameAll_eq e.2.2)]
  · exact sameFlat_eq e

/-! ### The order -/
theorem go_spec {acc : List Nat} : ∀ {es : List Edge} {m : Nat}, masksB.go acc es = some m → ∀ j, m.testBit j = true → ∃ e ∈ es, Region.binds .any e = true ∧ (e.on = j ∨ ∃ k, acc[e.on]? = some k ∧ k.testBit j = true)
  | [], m, h, j, hj => by simp [masksB.go] at h; subst h; simp at hj
  | e :: es, m, h, j, hj => by
    simp only [masksB.go] at h
    split at h
    case h_2 => cases h
    rename_i m' hm'
    split at h
    · rename_i hb
      split at h
      case h_2 => cases h
      rename_i k hk
      simp at h; subst h
      rw [Nat.testBit_or, Nat.testBit_or, Nat.testBit_two_pow] at hj
      simp only [Bool.or_eq_true, decide_eq_true_eq] at hj
      rcases hj with hj | hj | hj
      · obtain ⟨e', he', r⟩ := go_spec hm' j hj
        exact ⟨e', by simp [he'], r⟩
      · exact ⟨e, by simp, hb, .inl hj⟩
      · exact ⟨e, by simp, hb, .inr ⟨k, hk, hj⟩⟩
    · simp at h; subst h
      obtain ⟨e', he', r⟩ := go_spec hm' j hj
      exact ⟨e', by simp [he'], r⟩

theorem masks_spec : ∀ {ops : List Oper} {acc ms : List Nat}, masksB ops acc = some ms → (∃ tail, ms = acc ++ tail ∧ tail.length = ops.length) ∧
    ∀ i o, ops[i]? = some o → ∀ j, (mask ms (acc.length + i)).testBit j = true → ∃ e ∈ o.after.toList, Region.binds .any e = true ∧ (e.on = j ∨ (mask ms e.on).testBit j = true)
  | [], acc, ms, h => by
    simp [masksB] at h; subst h
    exact ⟨⟨[], by simp⟩, fun i o hi => by simp at hi⟩
  | o :: rest, acc, ms, h => by
    simp only [masksB] at h
    split at h
    case h_2 => cases h
    rename_i m hm
    split at h
    case h_2 => cases h
    rename_i acc' hacc
    have hacc := join_eq hacc
    subst hacc
    obtain ⟨⟨tail, htail, hlen⟩, hrest⟩ := masks_spec h
    refine ⟨⟨m :: tail, by simp [htail], by simp [hlen]⟩, fun i o' hi j hj => ?_⟩
    cases i with
    | zero =>
      simp at hi; subst hi
      have hmask : mask ms (acc.length + 0) = m := by
        unfold mask
        rw [htail, Nat.add_zero, List.append_assoc, List.getElem?_append_right (Nat.le_refl _)]
        simp
      rw [hmask] at hj
      obtain ⟨e, he, hb, hor⟩ := go_spec hm j hj
      refine ⟨e, he, hb, hor.imp id ?_⟩
      rintro ⟨k, hk, hkj⟩
      have hlt := (List.getElem?_eq_some_iff.1 hk).1
      have : mask ms e.on = k := by
        unfold mask
        rw [htail, List.append_assoc, List.getElem?_append_left hlt, hk]
      rwa [this]
    | succ i =>
      simp at hi
      refine hrest i o' hi j ?_
      have : (acc ++ [m]).length + i = acc.length + (i + 1) := by simp; omega
      rwa [this]

theorem backB_spec : ∀ {ops : List Oper} {k : Nat}, backB ops k = true → ∀ i o, ops[i]? = some o → ∀ e ∈ o.after.toList, Region.binds .any e = true → e.on < k + i
  | [], k, _, i, o, hi => by simp at hi
  | o :: rest, k, h, i, o', hi => by
    simp only [backB] at h
    split at h
    case h_2 => cases h
    rename_i hall
    cases i with
    | zero =>
      simp at hi; subst hi
      intro e he hbe
      have := List.all_eq_true.1 hall e he
      rw [hbe] at this
      have := of_ble this
      omega
    | succ i =>
      simp at hi
      intro e he hbe
      have := backB_spec h i o' hi e he hbe
      omega

/-- All that must have been done ahead of what stands next has been done. -/
theorem closed_ahead {ops : List Oper} {ms : List Nat} (hm : masksB ops [] = some ms) (hb : backB ops 0 = true) {S : Nat → Prop}
    (hS : ∀ i o, S i → ops[i]? = some o → ∀ e ∈ o.after.toList, Region.binds .any e = true → S e.on) :
    ∀ i o, ops[i]? = some o → (∀ e ∈ o.after.toList, Region.binds .any e = true → S e.on) → ∀ j, ahead ms i j = true → S j := by
  intro i
  induction i using Nat.strongRecOn with
  | _ i ih =>
    intro o ho hd j hj
    obtain ⟨e, he, hbe, hor⟩ := (masks_spec hm).2 i o ho j (by simpa [ahead] using hj)
    rcases hor with rfl | hor
    · exact hd e he hbe
    · have hlt := backB_spec hb i o ho e he hbe
      have hSe := hd e he hbe
      have hin : ∃ o', ops[e.on]? = some o' := by
        have := (List.getElem?_eq_some_iff.1 ho).1
        exact ⟨ops[e.on]'(by omega), List.getElem?_eq_getElem (by omega)⟩
      obtain ⟨o', ho'⟩ := hin
      exact ih e.on (by omega) o' ho' (fun e' he' hb' => hS e.on o' hSe ho' e' he' hb') j hor

/-! ### Counting -/
theorem countB_mono {p q : Nat → Bool} : ∀ {ops : List Oper} {k : Nat}, (∀ j, p j = true → q j = true) → countB P p ops k ≤ countB P q ops k
  | [], k, _ => Nat.le_refl _
  | o :: rest, k, h => by
    have ih := countB_mono (ops := rest) (k := k + 1) h
    simp only [countB]
    split
    · exact ih
    · cases hp : p k with
      | true => rw [h k hp]; simp only; omega
      | false => cases q k <;> simp only <;> omega
theorem countB_congr {p q : Nat → Bool} : ∀ {ops : List Oper} {k : Nat}, (∀ j, k ≤ j → p j = q j) → countB P p ops k = countB P q ops k
  | [], k, _ => rfl
  | o :: rest, k, h => by
    have ih := countB_congr (ops := rest) (k := k + 1) (fun j hj => h j (by omega))
    simp only [countB]
    rw [ih, h k (Nat.le_refl _)]
theorem countB_add {p q : Nat → Bool} {n : Nat} (hq : ∀ j, q j = if j = n then true else p j) (hp : p n = false) : ∀ {ops : List Oper} {k : Nat}, k ≤ n → ∀ {o : Oper}, ops[n - k]? = some o →
    countB P q ops k = countB P p ops k + (if readOp P o.op = true then 0 else 1)
  | [], k, _, o, ho => by simp at ho
  | o' :: rest, k, hk, o, ho => by
    by_cases hkn : k = n
    · subst hkn
      simp at ho; subst ho
      have : countB P q rest (k + 1) = countB P p rest (k + 1) := countB_congr fun j hj => by rw [hq, if_neg (by omega)]
      simp only [countB, this, hq k, if_pos, hp]
      cases readOp P o'.op <;> simp
    · have hs : n - k = (n - (k + 1)) + 1 := by omega
      rw [hs] at ho
      simp at ho
      have ih := countB_add hq hp (ops := rest) (k := k + 1) (by omega) ho
      have hqk : q k = p k := by rw [hq, if_neg hkn]
      simp only [countB, ih, hqk]
      cases readOp P o'.op <;> cases p k <;> simp <;> omega

/-! ### Slots -/
/-- What stands in a slot when just these have been done. -/
def lookW (p : Nat → Bool) (t : Nat) : List Oper → List (Slots × Value) → Nat → Option Value
  | o :: os, (_, v) :: tr, j => if o.dst = some t ∧ p j = true then some v else lookW p t os tr (j + 1)
  | _, _, _ => none
def slotAt (p : Nat → Bool) (ops : List Oper) (tr : List (Slots × Value)) (a : Slots) (t : Nat) : Option Value :=
  match lookW p t ops tr 0 with
  | some v => some v
  | none => a[t]?

theorem hasNat_mem : ∀ {xs : List Nat} {n : Nat}, hasNat xs n = true ↔ n ∈ xs
  | [], n => by simp [hasNat]
  | x :: xs, n => by
    simp only [hasNat]
    split
    · rename_i hb; have := of_beq hb; simp [this]
    · rename_i hb; have := of_beq_f hb
      rw [hasNat_mem]
      exact ⟨fun h => List.mem_cons_of_mem _ h, fun h => (List.mem_cons.1 h).resolve_left (fun e => this e.symm)⟩
theorem mem_dsts : ∀ {ops : List Oper} {i : Nat} {o : Oper} {d : Nat}, ops[i]? = some o → o.dst = some d → d ∈ dstsB ops
  | [], i, o, d, h, _ => by simp at h
  | p :: ps, 0, o, d, h, hd => by simp at h; subst h; simp [dstsB, hd]
  | p :: ps, i + 1, o, d, h, hd => by
    simp at h
    have := mem_dsts h hd
    simp only [dstsB]
    split
    · simp [this]
    · exact this
/-- Each slot is written by one operation at most. -/
theorem once_spec : ∀ {ops : List Oper}, onceB (dstsB ops) = true → ∀ (i j : Nat) (o o' : Oper) (d : Nat), ops[i]? = some o → ops[j]? = some o' → o.dst = some d → o'.dst = some d → i = j
  | [], _, i, j, o, o', d, h, _, _, _ => by simp at h
  | p :: ps, hon, i, j, o, o', d, hi, hj, hd, hd' => by
    have htail : onceB (dstsB ps) = true := by
      simp only [dstsB] at hon
      split at hon
      · simp only [onceB] at hon
        split at hon
        · cases hon
        · exact hon
      · exact hon
    have hhead : ∀ d, p.dst = some d → d ∉ dstsB ps := fun d hpd hm => by
      simp only [dstsB, hpd, onceB] at hon
      rw [hasNat_mem.2 hm] at hon
      cases hon
    cases i with
    | zero =>
      simp at hi; subst hi
      cases j with
      | zero => rfl
      | succ j => simp at hj; exact absurd (mem_dsts hj hd') (hhead d hd)
    | succ i =>
      simp at hi
      cases j with
      | zero => simp at hj; subst hj; exact absurd (mem_dsts hi hd) (hhead d hd')
      | succ j => simp at hj; rw [once_spec htail i j o o' d hi hj hd hd']

theorem lookW_none {p : Nat → Bool} {t : Nat} : ∀ {ops : List Oper} {tr : List (Slots × Value)} {k : Nat}, (∀ (i : Nat) (o : Oper), ops[i]? = some o → o.dst = some t → p (k + i) = false) → lookW p t ops tr k = none
  | [], _, _, _ => by simp [lookW]
  | _ :: _, [], _, _ => by simp [lookW]
  | o :: os, (a, v) :: tr, k, h => by
    simp only [lookW]
    rw [if_neg (fun hh => by have := h 0 o rfl hh.1; simp [hh.2] at this)]
    exact lookW_none fun i o' hi hd => by have := h (i + 1) o' (by simpa using hi) hd; rwa [show k + (i + 1) = k + 1 + i by omega] at this
theorem lookW_congr {p q : Nat → Bool} {t : Nat} : ∀ {ops : List Oper} {tr : List (Slots × Value)} {k : Nat}, (∀ (i : Nat) (o : Oper), ops[i]? = some o → o.dst = some t → p (k + i) = q (k + i)) → lookW p t ops tr k = lookW q t ops tr k
  | [], _, _, _ => by simp [lookW]
  | _ :: _, [], _, _ => by simp [lookW]
  | o :: os, (a, v) :: tr, k, h => by
    simp only [lookW]
    have ih := lookW_congr (p := p) (q := q) (t := t) (ops := os) (tr := tr) (k := k + 1) fun i o' hi hd => by have := h (i + 1) o' (by simpa using hi) hd; rwa [show k + (i + 1) = k + 1 + i by omega] at this
    rw [ih]
    by_cases hd : o.dst = some t
    · have := h 0 o rfl hd
      simp only [Nat.add_zero] at this
      rw [this]
    · rw [if_neg (fun hh => hd hh.1), if_neg (fun hh => hd hh.1)]
theorem lookW_at {p : Nat → Bool} {t : Nat} : ∀ {ops : List Oper} {tr : List (Slots × Value)} {k i : Nat} {o : Oper} {x : Slots × Value}, (∀ (i j : Nat) (o o' : Oper) (d : Nat), ops[i]? = some o → ops[j]? = some o' → o.dst = some d → o'.dst = some d → i = j) →
    ops[i]? = some o → tr[i]? = some x → o.dst = some t → p (k + i) = true → lookW p t ops tr k = some x.2
  | [], _, _, _, _, _, _, h, _, _, _ => by simp at h
  | _ :: _, [], _, _, _, _, _, _, h, _, _ => by simp at h
  | o' :: os, (a, v) :: tr, k, 0, o, x, hu, h1, h2, hd, hp => by
    simp at h1 h2; subst h1 h2
    simp only [lookW]
    rw [if_pos ⟨hd, by simpa using hp⟩]
  | o' :: os, (a, v) :: tr, k, i + 1, o, x, hu, h1, h2, hd, hp => by
    simp only [lookW]
    have hne : ¬ (o'.dst = some t ∧ p k = true) := fun hh => by
      have := hu 0 (i + 1) o' o t rfl h1 hh.1 hd
      omega
    rw [if_neg hne]
    simp at h1 h2
    exact lookW_at (fun i j o o' d a b c e => by have := hu (i + 1) (j + 1) o o' d (by simpa using a) (by simpa using b) c e; omega) h1 h2 hd (by rwa [show k + 1 + i = k + (i + 1) by omega])

theorem setAt_get : ∀ {a a' : Slots} {d : Nat} {v : Value}, setAt a d v = some a' → a'.length = a.length ∧ d < a.length ∧ ∀ t, a'[t]? = if t = d then some v else a[t]?
  | [], a', d, v, e => by simp [setAt] at e
  | x :: xs, a', 0, v, e => by
    simp [setAt] at e; subst e
    refine ⟨rfl, by simp, fun t => ?_⟩
    cases t <;> simp
  | x :: xs, a', d + 1, v, e => by
    simp only [setAt] at e
    split at e
    · rename_i ys ey
      simp at e; subst e
      obtain ⟨h1, h2, h3⟩ := setAt_get ey
      refine ⟨by simp [h1], by simp; omega, fun t => ?_⟩
      cases t with
      | zero => simp
      | succ t => simp [h3]
    · cases e
end
end Go.Am

/- The abstract machine: regions that draw their order (2). -/
namespace Go.Am
set_option linter.unusedVariables false
section
variable {P : Program}

theorem countB_shift {p : Nat → Bool} : ∀ {ops : List Oper} {k : Nat}, countB P p ops (k + 1) = countB P (fun j => p (j + 1)) ops k
  | [], k => rfl
  | o :: rest, k => by simp only [countB]; rw [countB_shift (k := k + 1)]
theorem lookW_shift {p : Nat → Bool} {t : Nat} : ∀ {ops : List Oper} {tr : List (Slots × Value)} {k : Nat}, lookW p t ops tr (k + 1) = lookW (fun j => p (j + 1)) t ops tr k
  | [], _, _ => by simp [lookW]
  | _ :: _, [], _ => by simp [lookW]
  | o :: os, (a, v) :: tr, k => by simp only [lookW]; rw [lookW_shift (k := k + 1)]

theorem putAt_get {a a' : Slots} {d : Option Tmp} {v : Value} (e : putAt a d v = some a') : a'.length = a.length ∧ (∀ x, d = some x → x < a.length) ∧ ∀ t, a'[t]? = if d = some t then some v else a[t]? := by
  cases d with
  | none => simp [putAt] at e; subst e; exact ⟨rfl, fun x h => (by cases h), fun t => (by simp)⟩
  | some d =>
    obtain ⟨h1, h2, h3⟩ := setAt_get (by simpa [putAt] using e)
    refine ⟨h1, fun x hx => (by simp at hx; subst hx; exact h2), fun t => ?_⟩
    rw [h3]
    by_cases ht : t = d
    · subst ht; simp
    · rw [if_neg ht, if_neg (fun hh => ht (by simp at hh; exact hh.symm))]

/-- Each slot is written once at most. -/
def Once (ops : List Oper) : Prop := ∀ (i j : Nat) (o o' : Oper) (d : Nat), ops[i]? = some o → ops[j]? = some o' → o.dst = some d → o'.dst = some d → i = j

theorem canon_spec {call : FuncId → List Value → AW → Option (Value × AW)} {all : List Oper} : ∀ {rest : List Oper} {a af : Slots} {h : AW} {tr : List (Slots × Value)} {hs : List AW}, Once rest → canon P call all rest a h = some (tr, hs, af) →
    hs[0]? = some h ∧ (∃ hl, lastB hs = some hl ∧ hs[countB P (fun _ => true) rest 0]? = some hl) ∧ af.length = a.length ∧ (∀ t, af[t]? = slotAt (fun _ => true) rest tr a t) ∧
    ∀ p o, rest[p]? = some o → ∃ ap vp, tr[p]? = some (ap, vp) ∧ ap.length = a.length ∧ (∀ t, ap[t]? = slotAt (fun j => decide (j < p)) rest tr a t) ∧ (∀ d, o.dst = some d → d < a.length) ∧
      (wantedB all o ap = false → vp = undef ∧ sureB all o ap = true) ∧
      (readOp P o.op = false → ∃ h1 h2, hs[countB P (fun j => decide (j < p)) rest 0]? = some h1 ∧ hs[countB P (fun j => decide (j < p)) rest 0 + 1]? = some h2 ∧
        (wantedB all o ap = true → stepB P call ap o h1 = some (vp, h2)) ∧ (wantedB all o ap = false → h2 = h1))
  | [], a, af, h, tr, hs, hu, e => by
    simp [canon] at e
    obtain ⟨rfl, rfl, rfl⟩ := e
    exact ⟨rfl, ⟨h, rfl, rfl⟩, rfl, fun t => by simp [slotAt, lookW], fun p o hp => by simp at hp⟩
  | o :: rest, a, af, h, tr, hs, hu, e => by
    simp only [canon] at e
    split at e
    case h_2 => cases e
    rename_i v h' hstep
    split at e
    case h_2 => cases e
    rename_i a' hput
    obtain ⟨hal, had, hag⟩ := putAt_get hput
    have hu' : Once rest := fun i j o o' d a b c e => by have := hu (i + 1) (j + 1) o o' d (by simpa using a) (by simpa using b) c e; omega
    -- what stands in the slots behind this operation
    have hslot : ∀ {tr' : List (Slots × Value)} {q : Nat → Bool} (t : Nat), q 0 = true → slotAt (fun j => q (j + 1)) rest tr' a' t = slotAt q (o :: rest) ((a, v) :: tr') a t := by
      intro tr' q t hq
      unfold slotAt
      simp only [lookW, hq, and_true]
      rw [lookW_shift]
      by_cases hd : o.dst = some t
      · rw [if_pos hd, lookW_none (fun i o' hi hd' => by have := hu 0 (i + 1) o o' t rfl (by simpa using hi) hd hd'; omega)]
        simp [hag, hd]
      · rw [if_neg hd, hag, if_neg hd]
    have hzero : ∀ {tr' : List (Slots × Value)} (t : Nat), a[t]? = slotAt (fun j => decide (j < 0)) (o :: rest) ((a, v) :: tr') a t := fun {tr'} t => by
      unfold slotAt
      rw [lookW_none (fun i o' _ _ => by simp)]
    have hwant : (wantedB all o a = false → (v = undef ∧ sureB all o a = true) ∧ h' = h) ∧ (wantedB all o a = true → stepB P call a o h = some (v, h')) := by
      constructor
      · intro hw
        rw [hw] at hstep
        simp only at hstep
        split at hstep
        · rename_i hsure
          simp at hstep; exact ⟨⟨hstep.1.symm, hsure⟩, hstep.2.symm⟩
        · cases hstep
      · intro hw; rw [hw] at hstep; exact hstep
    split at e
    case h_1 hread =>
      split at e
      case h_2 => cases e
      rename_i tr' hs' af' hc
      simp at e
      obtain ⟨rfl, rfl, rfl⟩ := e
      obtain ⟨i1, ⟨hl, i2, i3⟩, i4, i5, i6⟩ := canon_spec hu' hc
      refine ⟨i1, ⟨hl, i2, ?_⟩, i4.trans hal, fun t => by rw [i5]; exact hslot (q := fun _ => true) t rfl, fun p o' hp => ?_⟩
      · simp only [countB, hread]; rw [countB_shift]; exact i3
      · cases p with
        | zero =>
          simp at hp; subst hp
          exact ⟨a, v, rfl, rfl, hzero, had, fun hw => (hwant.1 hw).1, fun hr => by rw [hread] at hr; cases hr⟩
        | succ p =>
          simp at hp
          obtain ⟨ap, vp, j1, j2, j3, j4, j5, j6⟩ := i6 p o' hp
          have hcnt : countB P (fun j => decide (j < p + 1)) (o :: rest) 0 = countB P (fun j => decide (j < p)) rest 0 := by
            simp only [countB, hread]; rw [countB_shift]; simp
          refine ⟨ap, vp, by simpa using j1, j2.trans hal, fun t => ?_, fun d hd => by have := j4 d hd; omega, j5, by rw [hcnt]; exact j6⟩
          rw [j3, ← hslot t (by simp)]; simp
    case h_2 hread =>
      split at e
      case h_2 => cases e
      rename_i tr' hs' af' hc
      simp at e
      obtain ⟨rfl, rfl, rfl⟩ := e
      obtain ⟨i1, ⟨hl, i2, i3⟩, i4, i5, i6⟩ := canon_spec hu' hc
      have hne : hs' ≠ [] := by intro hh; rw [hh] at i1; simp at i1
      refine ⟨rfl, ⟨hl, ?_, ?_⟩, i4.trans hal, fun t => by rw [i5]; exact hslot (q := fun _ => true) t rfl, fun p o' hp => ?_⟩
      · cases hs' with
        | nil => exact absurd rfl hne
        | cons x xs => simpa [lastB] using i2
      · simp only [countB, hread]; rw [countB_shift]; simpa using i3
      · cases p with
        | zero =>
          simp at hp; subst hp
          refine ⟨a, v, rfl, rfl, hzero, had, fun hw => (hwant.1 hw).1, fun _ => ?_⟩
          have hcnt : countB P (fun j => decide (j < 0)) (o :: rest) 0 = 0 := by
            have : ∀ (ops : List Oper) (k : Nat), countB P (fun j => decide (j < 0)) ops k = 0 := by
              intro ops
              induction ops with
              | nil => intro k; rfl
              | cons o ops ih => intro k; simp only [countB, ih]; cases readOp P o.op <;> simp
            exact this _ _
          rw [hcnt]
          exact ⟨h, h', rfl, by simpa using i1, hwant.2, fun hw => (hwant.1 hw).2⟩
        | succ p =>
          simp at hp
          obtain ⟨ap, vp, j1, j2, j3, j4, j5, j6⟩ := i6 p o' hp
          have hcnt : countB P (fun j => decide (j < p + 1)) (o :: rest) 0 = countB P (fun j => decide (j < p)) rest 0 + 1 := by
            simp only [countB, hread]; rw [countB_shift]; simp
          refine ⟨ap, vp, by simpa using j1, j2.trans hal, fun t => ?_, fun d hd => by have := j4 d hd; omega, j5, by rw [hcnt]; simpa using j6⟩
          rw [j3, ← hslot t (by simp)]; simp

theorem anywhere_spec {a : Slots} {o : Oper} {v : Value} {lo hi : Nat} : ∀ {hs : List AW} {k₀ : Nat}, anywhere P a o v lo hi hs k₀ = true → ∀ k h, hs[k]? = some h → lo ≤ k₀ + k → k₀ + k ≤ hi → ∃ h'', opB P a o h = some (.val v h'')
  | [], k₀, e, k, h, hk, _, _ => by simp at hk
  | h₀ :: hs, k₀, e, k, h, hk, h1, h2 => by
    simp only [anywhere] at e
    split at e
    case h_2 => cases e
    rename_i hin
    cases k with
    | zero =>
      simp at hk; subst hk
      have hb : (Nat.ble lo k₀ && Nat.ble k₀ hi) = true := by
        rw [Nat.ble_eq_true_of_le (by omega), Nat.ble_eq_true_of_le (by omega)]; rfl
      rw [hb] at hin
      simp only at hin
      split at hin
      case h_2 => cases hin
      rename_i u h'' hop
      split at hin
      case h_2 => cases hin
      rename_i u' hu'
      have := fv_eq hu'
      subst this
      have := sameB_eq hin
      subst this
      exact ⟨h'', hop⟩
    | succ k =>
      simp at hk
      exact anywhere_spec e k h hk (by omega) (by omega)

theorem agree_spec {ms : List Nat} {all : List Oper} {hs : List AW} : ∀ {rest : List Oper} {tr : List (Slots × Value)} {i : Nat}, agree P ms all hs rest tr i = true → ∀ p o a v, rest[p]? = some o → tr[p]? = some (a, v) →
    (readOp P o.op = true → wantedB all o a = true → ∀ k h, hs[k]? = some h → leastOf P ms all (i + p) ≤ k → k ≤ mostOf P ms all (i + p) → ∃ h'', opB P a o h = some (.val v h'')) ∧ (readOp P o.op = false → leastOf P ms all (i + p) = mostOf P ms all (i + p))
  | [], tr, i, e, p, o, a, v, hp, _ => by simp at hp
  | _ :: _, [], i, e, p, o, a, v, _, ht => by simp at ht
  | o' :: rest, (a', v') :: tr, i, e, p, o, a, v, hp, ht => by
    simp only [agree] at e
    split at e
    case h_2 => cases e
    rename_i hin
    cases p with
    | zero =>
      simp at hp ht
      obtain ⟨rfl, rfl⟩ := ht
      subst hp
      constructor
      · intro hr hw k h hk h1 h2
        rw [hr] at hin
        simp only at hin
        rw [hw] at hin
        exact anywhere_spec hin k h hk (by simpa using h1) (by simpa using h2)
      · intro hr
        rw [hr] at hin
        exact of_beq hin
    | succ p =>
      simp at hp ht
      have := agree_spec e p o a v hp ht
      rwa [show i + 1 + p = i + (p + 1) by omega] at this

theorem sortedB_spec {ms ls : List Nat} {i : Nat} : ∀ {ops : List Oper} {k : Nat}, sortedB ms ls i ops k = true → ∀ p q d, ops[p]? = some q → q.dst = some d → d ∈ ls → k + p ≠ i → (k + p < i → ahead ms i (k + p) = true) ∧ (i < k + p → ahead ms (k + p) i = true)
  | [], k, _, p, q, d, hp, _, _, _ => by simp at hp
  | q' :: ops, k, e, p, q, d, hp, hd, hm, hne => by
    simp only [sortedB] at e
    split at e
    case h_2 => cases e
    rename_i hin
    cases p with
    | zero =>
      simp at hp; subst hp
      rw [hd] at hin
      simp only [hasNat_mem.2 hm] at hin
      rw [beq_false (by simpa using hne)] at hin
      simp only at hin
      constructor
      · intro hlt
        rw [Nat.ble_eq_true_of_le (by omega)] at hin
        simpa using hin
      · intro hlt
        have : Nat.ble (k + 1) i = false := by
          cases hb : Nat.ble (k + 1) i with
          | false => rfl
          | true => have := of_ble hb; omega
        rw [this] at hin
        simpa using hin
    | succ p =>
      simp at hp
      have := sortedB_spec e p q d hp hd hm (by omega)
      rwa [show k + 1 + p = k + (p + 1) by omega] at this

theorem allSorted_spec {ms : List Nat} {all : List Oper} : ∀ {rest : List Oper} {i : Nat}, allSorted ms all rest i = true → ∀ p o, rest[p]? = some o → ∀ j q d, all[j]? = some q → q.dst = some d → d ∈ looksB all o → j ≠ i + p →
    (j < i + p → ahead ms (i + p) j = true) ∧ (i + p < j → ahead ms j (i + p) = true)
  | [], i, _, p, o, hp => by simp at hp
  | o' :: rest, i, e, p, o, hp => by
    simp only [allSorted] at e
    split at e
    case h_2 => cases e
    rename_i hin
    cases p with
    | zero =>
      simp at hp; subst hp
      intro j q d hj hd hm hne
      have := sortedB_spec hin j q d hj hd hm (by simpa using hne)
      simpa using this
    | succ p =>
      simp at hp
      intro j q d hj hd hm hne
      have := allSorted_spec e p o hp j q d hj hd hm (by omega)
      rwa [show i + 1 + p = i + (p + 1) by omega] at this

theorem tmpsOf_mem : ∀ {xs : List Operand} {t : Nat}, .tmp t ∈ xs → t ∈ tmpsOf xs
  | [], t, h => by simp at h
  | x :: xs, t, h => by
    cases x with
    | tmp u =>
      simp only [tmpsOf, List.mem_cons]
      simp only [List.mem_cons, Operand.tmp.injEq] at h
      exact h.imp id tmpsOf_mem
    | _ => simp only [List.mem_cons, reduceCtorEq, false_or] at h; exact (show t ∈ tmpsOf xs from tmpsOf_mem h)
theorem looksB_operand {all : List Oper} {o : Oper} {t : Nat} (h : Operand.tmp t ∈ o.op.operands) : t ∈ looksB all o := by
  have hm : t ∈ tmpsOf o.op.operands.toList := tmpsOf_mem (by simpa using h)
  unfold looksB
  split
  · exact hm
  · split
    · split
      · exact List.mem_cons_of_mem _ hm
      · exact hm
    · exact hm
theorem looksB_guard {all : List Oper} {o p : Oper} {g d : Nat} {want : Bool} (h : o.guard = some (g, want)) (hp : all[g]? = some p) (hd : p.dst = some d) : d ∈ looksB all o := by
  unfold looksB
  rw [h]
  simp [hp, hd]

theorem wantedB_congr {all : List Oper} {o : Oper} {a a' : Slots} (h : ∀ t, t ∈ looksB all o → a[t]? = a'[t]?) : wantedB all o a = wantedB all o a' := by
  unfold wantedB
  cases hg : o.guard with
  | none => rfl
  | some gw =>
    obtain ⟨g, want⟩ := gw
    simp only
    cases hp : all[g]? with
    | none => rfl
    | some p =>
      simp only
      cases hd : p.dst with
      | none => rfl
      | some d => simp only [h d (looksB_guard hg hp hd)]
theorem sureB_congr {all : List Oper} {o : Oper} {a a' : Slots} (h : ∀ t, t ∈ looksB all o → a[t]? = a'[t]?) : sureB all o a = sureB all o a' := by
  unfold sureB
  cases hg : o.guard with
  | none => rfl
  | some gw =>
    obtain ⟨g, want⟩ := gw
    simp only
    cases hp : all[g]? with
    | none => rfl
    | some p =>
      simp only
      cases hd : p.dst with
      | none => rfl
      | some d => simp only [h d (looksB_guard hg hp hd)]
theorem aev_congr {o : Oper} {all : List Oper} {a a' : Slots} (h : ∀ t, t ∈ looksB all o → a[t]? = a'[t]?) : ∀ x ∈ o.op.operands, aev a x = aev a' x := by
  intro x hx
  cases x with
  | tmp t => exact h t (looksB_operand hx)
  | const v => rfl
  | global g => rfl
  | func f => rfl

theorem cnt_lt {p q : Nat → Bool} : ∀ {l : List Nat}, (∀ x, q x = true → p x = true) → (∃ x ∈ l, p x = true ∧ q x = false) → (l.filter q).length < (l.filter p).length
  | [], _, ⟨x, hx, _⟩ => by simp at hx
  | y :: l, h, ⟨x, hx, h1, h2⟩ => by
    have hle : (l.filter q).length ≤ (l.filter p).length := by
      clear hx
      induction l with
      | nil => simp
      | cons z l ih =>
        simp only [List.filter_cons]
        cases hq : q z with
        | true => rw [h z hq]; simpa using ih
        | false => cases p z <;> simp <;> omega
    simp only [List.filter_cons]
    rcases List.mem_cons.1 hx with rfl | hx
    · rw [h1, h2]; simp; omega
    · have := cnt_lt h ⟨x, hx, h1, h2⟩
      cases hq : q y with
      | true => rw [h y hq]; simpa using this
      | false => cases p y <;> simp <;> omega
end
end Go.Am

/- The abstract machine: regions that draw their order (3): in whatever order, it comes to the same. -/
namespace Go.Am
set_option linter.unusedVariables false
section
variable {P : Program}

theorem countB_congr_lt {p q : Nat → Bool} : ∀ {ops : List Oper} {k : Nat}, (∀ j, k ≤ j → j < k + ops.length → p j = q j) → countB P p ops k = countB P q ops k
  | [], k, _ => rfl
  | o :: rest, k, h => by
    have ih := countB_congr_lt (ops := rest) (k := k + 1) (fun j h1 h2 => h j (by omega) (by simp; omega))
    simp only [countB]
    rw [ih, h k (Nat.le_refl _) (by simp)]
theorem slotAt_congr {p q : Nat → Bool} {ops : List Oper} {tr : List (Slots × Value)} {a : Slots} {t : Nat} (h : ∀ i o, ops[i]? = some o → o.dst = some t → p i = q i) : slotAt p ops tr a t = slotAt q ops tr a t := by
  unfold slotAt
  rw [lookW_congr (k := 0) fun i o hi hd => by simpa using h i o hi hd]
theorem slotAt_here {p : Nat → Bool} {ops : List Oper} {tr : List (Slots × Value)} {a : Slots} {i t : Nat} {o : Oper} {x : Slots × Value} (hu : Once ops) (ho : ops[i]? = some o) (hx : tr[i]? = some x) (hd : o.dst = some t) (hp : p i = true) : slotAt p ops tr a t = some x.2 := by
  unfold slotAt
  rw [lookW_at hu ho hx hd (by simpa using hp)]

/-- Listed. -/
def lst (listed : Array Bool) (j : Nat) : Bool := listed.getD j false
theorem lst_iff {listed : Array Bool} {j : Nat} : lst listed j = true ↔ listed[j]? = some true := by
  unfold lst
  rw [Array.getD_eq_getD_getElem?]
  cases h : listed[j]? with
  | none => simp
  | some b => cases b <;> simp
theorem lst_set {listed : Array Bool} {i j : Nat} (hi : i < listed.size) : lst (listed.setIfInBounds i true) j = if j = i then true else lst listed j := by
  unfold lst
  rw [Array.getD_eq_getD_getElem?, Array.getD_eq_getD_getElem?, Array.getElem?_setIfInBounds]
  by_cases h : i = j
  · subst h; simp [hi]
  · rw [if_neg h, if_neg (by omega)]

theorem draw_any {call : FuncId → List Value → AW → Option (Value × AW)} (hg : noGo P = true) (hc : Sound P call) {opsA : Array Oper} {ms : List Nat} {tr : List (Slots × Value)} {hs : List AW} {a af : Slots} {h h' : AW} {ρ₀ : Env} {h₀ : AW} {w₀ : World} {Q : Exit → Act → World → Prop}
    (hm : masksB opsA.toList [] = some ms) (hok : drawOk P ms opsA.toList = true) (hcan : canon P call opsA.toList opsA.toList a h = some (tr, hs, af)) (hag : agree P ms opsA.toList hs opsA.toList tr 0 = true) (hlast : lastB hs = some h')
    (hQ : ∀ ρ' act' w', LRel ρ' af act'.tmps.toList → act'.defers = [] → HRel P ρ' h' w' → Turn ρ₀ h₀ w₀ ρ' h' w' → Q .normal act' w') :
    ∀ (fuel : Nat) (listed : Array Bool) (act : Act) (w : World) (ρ : Env) (H : AW), listed.size = opsA.size →
      (∀ i o, lst listed i = true → opsA.toList[i]? = some o → ∀ e ∈ o.after.toList, Region.binds .any e = true → lst listed e.on = true) →
      hs[countB P (lst listed) opsA.toList 0]? = some H → HRel P ρ H w → Turn ρ₀ h₀ w₀ ρ H w → act.tmps.size = a.length → act.defers = [] →
      (∀ t x, slotAt (lst listed) opsA.toList tr a t = some x → ∃ u, act.tmps[t]? = some u ∧ VRel ρ x u) →
      ((List.range opsA.size).filter fun i => !listed.getD i true).length ≤ fuel → wpAny P .any opsA Q fuel listed act w := by
  simp only [drawOk, Bool.and_eq_true] at hok
  obtain ⟨⟨hon, hback⟩, hsort⟩ := hok
  have hu : Once opsA.toList := once_spec hon
  obtain ⟨c1, ⟨hl, c2, c3⟩, c4, c5, c6⟩ := canon_spec hu hcan
  rw [hlast] at c2
  simp at c2
  subst c2
  -- when all are listed
  have final : ∀ (listed : Array Bool) (act : Act) (w : World) (ρ : Env) (H : AW), (∀ i, i < opsA.size → lst listed i = true) → hs[countB P (lst listed) opsA.toList 0]? = some H → HRel P ρ H w → Turn ρ₀ h₀ w₀ ρ H w → act.tmps.size = a.length → act.defers = [] →
      (∀ t x, slotAt (lst listed) opsA.toList tr a t = some x → ∃ u, act.tmps[t]? = some u ∧ VRel ρ x u) → Q .normal act w := by
    intro listed act w ρ H hall hH HR T hsz hd hslots
    have hcnt : countB P (lst listed) opsA.toList 0 = countB P (fun _ => true) opsA.toList 0 := countB_congr_lt fun j _ hj => hall j (by simpa using hj)
    rw [hcnt, c3] at hH
    simp at hH
    subst hH
    refine hQ ρ act w (LRel.of_get (by simp; omega) fun t x hx => ?_) hd HR T
    rw [c5, slotAt_congr (q := lst listed) fun i o hi _ => (hall i (by simpa using (List.getElem?_eq_some_iff.1 hi).1)).symm] at hx
    obtain ⟨u, hu', hv⟩ := hslots t x hx
    exact ⟨u, by rwa [Array.getElem?_toList], hv⟩
  have hgetD : ∀ (listed : Array Bool) (i : Nat), i < listed.size → listed.getD i true = lst listed i := fun listed i hi => by
    unfold lst
    rw [Array.getD_eq_getD_getElem?, Array.getD_eq_getD_getElem?, Array.getElem?_eq_getElem hi]; rfl
  intro fuel
  induction fuel with
  | zero =>
    intro listed act w ρ H hsize hclosed hH HR T hsz hd hslots hfuel
    have hnil : ((List.range opsA.size).filter fun i => !listed.getD i true) = [] := List.eq_nil_of_length_eq_zero (by omega)
    have hall : ∀ i, i < opsA.size → lst listed i = true := fun i hi => by
      have := List.filter_eq_nil_iff.1 hnil i (by simpa using hi)
      rw [hgetD listed i (by omega)] at this
      simpa using this
    refine ⟨?_, final listed act w ρ H hall hH HR T hsz hd hslots⟩
    unfold Region.ready
    rw [List.filter_eq_nil_iff]
    intro i hi
    rw [hgetD listed i (by simp at hi; omega), hall i (by simpa using hi)]
    simp
  | succ fuel ih =>
    intro listed act w ρ H hsize hclosed hH HR T hsz hd hslots hfuel
    refine ⟨fun hready => ?_, fun i hi => ?_⟩
    · have hall : ∀ i, i < opsA.size → lst listed i = true := by
        intro i
        induction i using Nat.strongRecOn with
        | _ i ihi =>
          intro hi
          cases hb : lst listed i with
          | true => rfl
          | false =>
            have hin : i ∈ Region.ready .any opsA listed := by
              unfold Region.ready
              rw [List.mem_filter]
              refine ⟨by simpa using hi, ?_⟩
              rw [hgetD listed i (by omega), hb]
              have ho : opsA[i]? = some opsA[i] := Array.getElem?_eq_getElem hi
              simp only [ho, Option.map_some, Option.getD_some, Bool.not_false, Bool.true_and]
              rw [Array.all_eq_true']
              intro e he
              cases hbe : Region.binds .any e with
              | false => simp
              | true =>
              have hlt := backB_spec hback i opsA[i] (by rw [Array.getElem?_toList]; exact ho) e (by simpa using he) hbe
              have := ihi e.on (by omega) (by omega)
              unfold lst at this
              rw [this]; simp
            rw [hready] at hin
            simp at hin
      exact final listed act w ρ H hall hH HR T hsz hd hslots
    · -- the operation i stands next
      unfold Region.ready at hi
      rw [List.mem_filter] at hi
      obtain ⟨hin, hi⟩ := hi
      have hin : i < opsA.size := by simpa using hin
      have ho : opsA[i]? = some opsA[i] := Array.getElem?_eq_getElem hin
      generalize opsA[i] = o at ho
      rw [hgetD listed i (by omega), ho] at hi
      simp only [Option.map_some, Option.getD_some, Bool.and_eq_true, Bool.not_eq_true'] at hi
      obtain ⟨hnot, hpre⟩ := hi
      rw [Array.all_eq_true'] at hpre
      have hoL : opsA.toList[i]? = some o := by rw [Array.getElem?_toList]; exact ho
      have hpreds : ∀ e ∈ o.after.toList, Region.binds .any e = true → lst listed e.on = true := fun e he hb => by
        have := hpre e (by simpa using he)
        rw [hb] at this
        simpa [lst] using this
      have hclose := closed_ahead hm hback (S := fun j => lst listed j = true) hclosed
      have hbefore : ∀ j, ahead ms i j = true → lst listed j = true := hclose i o hoL hpreds
      have hafter : ∀ j q, opsA.toList[j]? = some q → lst listed j = true → ahead ms j i = false := fun j q hq hj => by
        cases hb : ahead ms j i with
        | false => rfl
        | true =>
          have := hclose j q hq (hclosed j q hj hq) i hb
          rw [hnot] at this; cases this
      obtain ⟨ap, vp, d1, d2, d3, d4, d5, d6⟩ := c6 i o hoL
      -- what it looks at stands as it does in the order of the text
      let A : Slots := (List.range a.length).map fun t => (slotAt (lst listed) opsA.toList tr a t).getD undef
      have hA : ∀ t, A[t]? = if t < a.length then some ((slotAt (lst listed) opsA.toList tr a t).getD undef) else none := fun t => by
        simp only [A, List.getElem?_map]
        by_cases ht : t < a.length
        · rw [List.getElem?_range ht, if_pos ht]; rfl
        · rw [List.getElem?_eq_none (by simpa using ht), if_neg ht]; rfl
      have hsome : ∀ (p : Nat → Bool) t, t < a.length → ∃ x, slotAt p opsA.toList tr a t = some x := fun p t ht => by
        unfold slotAt
        cases lookW p t opsA.toList tr 0 with
        | some v => exact ⟨v, rfl⟩
        | none => exact ⟨a[t], List.getElem?_eq_getElem ht⟩
      have hrelA : LRel ρ A act.tmps.toList := LRel.of_get (by simp [A]; omega) fun t x hx => by
        rw [hA] at hx
        split at hx
        · rename_i ht
          obtain ⟨y, hy⟩ := hsome (lst listed) t ht
          rw [hy] at hx
          simp at hx; subst hx
          obtain ⟨u, hu', hv⟩ := hslots t y hy
          exact ⟨u, by rwa [Array.getElem?_toList], hv⟩
        · cases hx
      have hlook : ∀ t, t ∈ looksB opsA.toList o → A[t]? = ap[t]? := fun t ht => by
        have hsl : slotAt (lst listed) opsA.toList tr a t = slotAt (fun j => decide (j < i)) opsA.toList tr a t := slotAt_congr fun j q hq hd => by
          by_cases hji : j = i
          · subst hji; rw [hnot]; simp
          · obtain ⟨s1, s2⟩ := allSorted_spec hsort i o hoL j q t hq hd ht (by omega)
            by_cases hlt : j < i
            · rw [hbefore j (by simpa using s1 (by omega))]; simp [hlt]
            · have := s2 (by omega)
              cases hb : lst listed j with
              | false => simp [hlt]
              | true =>
                have := hafter j q hq hb
                rw [show (0 + i) = i by omega] at s2
                rw [s2 (by omega)] at this; cases this
        rw [hA, d3, hsl]
        by_cases htl : t < a.length
        · rw [if_pos htl]
          obtain ⟨y, hy⟩ := hsome (fun j => decide (j < i)) t htl
          rw [hy]; rfl
        · rw [if_neg htl, ← d3]
          rw [List.getElem?_eq_none (by omega)]
      have hwA : wantedB opsA.toList o A = wantedB opsA.toList o ap := wantedB_congr hlook
      have hsA : sureB opsA.toList o A = true := by
        rw [sureB_congr hlook]
        cases hw : wantedB opsA.toList o ap with
        | true => exact sure_of_wanted hw
        | false => exact (d5 hw).2
      have hopA : ∀ H', opB P A o H' = opB P ap o H' := fun H' => opB_congr (aev_congr hlook)
      -- how many that turn rows have been done
      have hlo : leastOf P ms opsA.toList i ≤ countB P (lst listed) opsA.toList 0 := countB_mono hbefore
      have hhi : countB P (lst listed) opsA.toList 0 ≤ mostOf P ms opsA.toList i := by
        have : countB P (lst listed) opsA.toList 0 = countB P (fun j => lst listed j && decide (j < opsA.size)) opsA.toList 0 := countB_congr_lt fun j _ hj => by
          have : j < opsA.size := by simpa using hj
          simp [this]
        rw [this]
        refine countB_mono fun j hj => ?_
        simp only [Bool.and_eq_true, decide_eq_true_eq] at hj
        obtain ⟨hj, hjl⟩ := hj
        have hq : opsA.toList[j]? = some opsA[j] := by rw [Array.getElem?_toList]; exact Array.getElem?_eq_getElem hjl
        rw [hafter j _ hq hj]
        have hne : j ≠ i := fun hh => by subst hh; rw [hnot] at hj; cases hj
        rw [beq_false hne]; rfl
      obtain ⟨a1, a2⟩ := agree_spec hag i o ap vp hoL d1
      rw [show 0 + i = i by omega] at a1 a2
      have hcadd := countB_add (P := P) (p := lst listed) (q := lst (listed.setIfInBounds i true)) (n := i) (fun j => lst_set (by omega)) hnot (ops := opsA.toList) (k := 0) (by omega) (o := o) (by simpa using hoL)
      have hback' : ∀ i o, opsA.toList[i]? = some o → ∀ j, ahead ms i j = true → j < i := fun i o ho => closed_ahead hm hback (S := fun j => j < i) (fun j q hj hq e he hbe => by have := backB_spec hback j q hq e he hbe; omega) i o ho (fun e he hbe => by have := backB_spec hback i o ho e he hbe; omega)
      have hmid : readOp P o.op = false → countB P (lst listed) opsA.toList 0 = countB P (fun j => decide (j < i)) opsA.toList 0 := fun hr => by
        have e1 : leastOf P ms opsA.toList i ≤ countB P (fun j => decide (j < i)) opsA.toList 0 := countB_mono fun j hj => by simpa using hback' i o hoL j hj
        have e2 : countB P (fun j => decide (j < i)) opsA.toList 0 ≤ mostOf P ms opsA.toList i := by
          have : countB P (fun j => decide (j < i)) opsA.toList 0 = countB P (fun j => decide (j < i) && decide (j < opsA.size)) opsA.toList 0 := countB_congr_lt fun j _ hj => by
            have : j < opsA.size := by simpa using hj
            simp [this]
          rw [this]
          refine countB_mono fun j hj => ?_
          simp only [Bool.and_eq_true, decide_eq_true_eq] at hj
          obtain ⟨hj, hjl⟩ := hj
          have hq : opsA.toList[j]? = some opsA[j] := by rw [Array.getElem?_toList]; exact Array.getElem?_eq_getElem hjl
          rw [beq_false (show j ≠ i by omega)]
          cases hb : ahead ms j i with
          | false => rfl
          | true => have := hback' j _ hq i hb; omega
        have := a2 hr
        omega
      -- what holds behind it
      have next : ∀ (u : Value) (w' : World) (ρ' : Env) (H' : AW), ρ.le ρ' → VRel ρ' vp u → HRel P ρ' H' w' → Turn ρ H w ρ' H' w' → hs[countB P (lst (listed.setIfInBounds i true)) opsA.toList 0]? = some H' →
          wpAny P .any opsA Q fuel (listed.setIfInBounds i true) (act.put o.dst u) w' := by
        intro u w' ρ' H' le hv HR' T' hH'
        refine ih _ _ w' ρ' H' (by simpa using hsize) ?_ hH' HR' (T.trans T') ?_ (by rw [put_defers]; exact hd) ?_ ?_
        · intro j q hj hq e he hb
          rw [lst_set (by omega)] at hj ⊢
          by_cases hji : j = i
          · subst hji
            rw [hoL] at hq; simp at hq; subst hq
            rw [hpreds e he hb]; simp
          · rw [if_neg hji] at hj
            rw [hclosed j q hj hq e he hb]; simp
        · rw [← hsz]
          cases o.dst <;> simp [Act.put]
        · intro t x hx
          have hput : (act.put o.dst u).tmps[t]? = if o.dst = some t then (if t < act.tmps.size then some u else none) else act.tmps[t]? := by
            cases hd' : o.dst with
            | none => simp [Act.put]
            | some d =>
              simp only [Act.put, Array.getElem?_setIfInBounds]
              by_cases hdt : d = t
              · subst hdt; simp
              · rw [if_neg hdt, if_neg (fun hh => hdt (by simpa using hh))]
          by_cases hdt : o.dst = some t
          · rw [slotAt_here hu hoL d1 hdt (by rw [lst_set (by omega)]; simp)] at hx
            simp at hx; subst hx
            exact ⟨u, by rw [hput, if_pos hdt, if_pos (by have := d4 t hdt; omega)], hv⟩
          · rw [slotAt_congr (q := lst listed) fun j q hq hd' => by
              rw [lst_set (by omega)]
              by_cases hji : j = i
              · subst hji; rw [hoL] at hq; simp at hq; subst hq; exact absurd hd' hdt
              · rw [if_neg hji]] at hx
            obtain ⟨u', hu', hv'⟩ := hslots t x hx
            exact ⟨u', by rw [hput, if_neg hdt]; exact hu', hv'.mono le⟩
        · have := cnt_lt (l := List.range opsA.size) (p := fun j => !listed.getD j true) (q := fun j => !(listed.setIfInBounds i true).getD j true) (fun x hx => by
            rw [Array.getD_eq_getD_getElem?, Array.getElem?_setIfInBounds] at hx
            rw [Array.getD_eq_getD_getElem?]
            by_cases hxi : i = x
            · subst hxi; rw [if_pos rfl, if_pos (by omega)] at hx; simp at hx
            · rwa [if_neg hxi] at hx) ⟨i, by simpa using hin, by rw [hgetD listed i (by omega), hnot]; rfl, by
              rw [Array.getD_eq_getD_getElem?, Array.getElem?_setIfInBounds, if_pos rfl, if_pos (by omega)]; rfl⟩
          omega
      unfold wpOp
      rw [ho]
      simp only
      rw [← wantedB_eq hrelA hsA, hwA]
      cases hw : wantedB opsA.toList o ap with
      | false =>
        rw [if_neg (by simp)]
        have hvp := (d5 hw).1
        refine next undef w ρ H (Env.le_refl _) (by rw [hvp]; exact undef_rel) HR (Turn.refl _ _ _) ?_
        rw [hcadd]
        cases hr : readOp P o.op with
        | true => simpa using hH
        | false =>
          obtain ⟨h1, h2, e1, e2, _, e4⟩ := d6 hr
          have hh := e4 hw
          subst hh
          have heq := hmid hr
          rw [heq, e1] at hH
          simp at hH; subst hH
          simp only [Bool.false_eq_true, if_false]
          rw [heq, e2]
      | true =>
        rw [if_pos rfl]
        left
        have fin : ∀ {H' : AW}, OpDone P ρ H w (execOp act.eval o) (.val vp H') → hs[countB P (lst (listed.setIfInBounds i true)) opsA.toList 0]? = some H' → o.wp P act w (wpAny P .any opsA Q fuel (listed.setIfInBounds i true)) Q := by
          intro H' hdone hH'
          obtain ⟨n, u, w', ρ', hrun, hn, hv, HR', T'⟩ := hdone
          have := next u w' ρ' H' T'.le hv HR' T' hH'
          unfold Oper.wp
          rw [hrun]
          rcases hn with rfl | ⟨rfl, rfl⟩ <;> exact this
        cases hr : readOp P o.op with
        | true =>
          obtain ⟨h'', hop⟩ := a1 hr hw _ H hH hlo hhi
          obtain ⟨v, hv⟩ := opB_read hr hop
          simp at hv
          obtain ⟨_, rfl⟩ := hv
          refine fin (opB_sound hrelA HR (by rw [hopA]; exact hop)) ?_
          rw [hcadd, hr]
          simpa using hH
        | false =>
          obtain ⟨h1, h2, e1, e2, e3, _⟩ := d6 hr
          have hst := e3 hw
          have heq := hmid hr
          rw [heq, e1] at hH
          simp at hH; subst hH
          have hnew : hs[countB P (lst (listed.setIfInBounds i true)) opsA.toList 0]? = some h2 := by
            rw [hcadd, hr, heq]; simpa using e2
          unfold stepB at hst
          split at hst
          case h_1 v h3 hop =>
            split at hst
            case h_2 => cases hst
            rename_i v' hv'
            have := fv_eq hv'
            subst this
            simp at hst
            obtain ⟨rfl, rfl⟩ := hst
            exact fin (opB_sound hrelA HR (by rw [hopA]; exact hop)) hnew
          case h_2 f args hop =>
            obtain ⟨us, hus, hrun⟩ := opB_sound hrelA HR (e := by rw [hopA]; exact hop)
            obtain ⟨⟨fn, c, hf, hb⟩, hcalls⟩ := hc f args h1 vp h2 hst
            unfold Oper.wp
            rw [hrun, run_callFunc hg hf hb]
            simp only [Oper.upon]
            refine (hcalls ρ us w hus HR).mono ?_
            rintro en w₁ ⟨u, ρ₁, rfl, hv, H₁, T₁⟩
            exact next u w₁ ρ₁ h2 T₁.le hv H₁ T₁ hnew
          case h_3 => cases hst

theorem draw_sound {call : FuncId → List Value → AW → Option (Value × AW)} (hg : noGo P = true) (hmix : P.follows .mixedOrders = true) (hc : Sound P call) {opsA : Array Oper} {id : Nat} {a af : Slots} {h h' : AW} (e : drawB P call opsA.toList a h = some (af, h'))
    {ρ : Env} {act : Act} {w : World} {Q : Exit → Act → World → Prop} (hr : LRel ρ a act.tmps.toList) (hd : act.defers = []) (H : HRel P ρ h w)
    (hQ : ∀ ρ' act' w', LRel ρ' af act'.tmps.toList → act'.defers = [] → HRel P ρ' h' w' → Turn ρ h w ρ' h' w' → Q .normal act' w') : (Code.region id opsA true).wp P Q act w := by
  unfold drawB at e
  split at e
  case h_2 => cases e
  rename_i ms hm
  split at e
  case h_2 => cases e
  rename_i hok
  split at e
  case h_2 => cases e
  rename_i tr hs af' hcan
  split at e
  case h_2 => cases e
  rename_i hl hag hlast
  simp at e
  obtain ⟨rfl, rfl⟩ := e
  refine wp_region_any hmix ?_
  have hu : Once opsA.toList := by
    simp only [drawOk, Bool.and_eq_true] at hok
    exact once_spec hok.1.1
  have hempty : ∀ j, lst (Array.replicate opsA.size false) j = false := fun j => by
    unfold lst
    rw [Array.getD_eq_getD_getElem?, Array.getElem?_replicate]
    split <;> rfl
  have hzero : countB P (lst (Array.replicate opsA.size false)) opsA.toList 0 = 0 := by
    have : ∀ (ops : List Oper) (k : Nat), countB P (fun _ => false) ops k = 0 := by
      intro ops
      induction ops with
      | nil => intro k; rfl
      | cons o ops ih => intro k; simp only [countB, ih]; cases readOp P o.op <;> simp
    exact (countB_congr fun j _ => hempty j).trans (this opsA.toList 0)
  have hw : ({ w with drawn := w.drawn + 1 } : World).heap = w.heap := rfl
  refine draw_any (ρ₀ := ρ) (h₀ := h) (w₀ := w) hg hc hm hok hcan hag hlast hQ opsA.size _ act _ ρ h (by simp) (fun i o hi => by rw [hempty] at hi; cases hi) ?_ (H.draw hw) (Turn.draw hw rfl rfl rfl (Turn.refl _ _ _)) ?_ hd ?_ ?_
  · rw [hzero]; exact (canon_spec hu hcan).1
  · have := hr.length; simpa using this.symm
  · intro t x hx
    unfold slotAt at hx
    rw [lookW_none fun i o _ _ => hempty _] at hx
    obtain ⟨u, hu', hv⟩ := hr.get hx
    rw [Array.getElem?_toList] at hu'
    exact ⟨u, hu', hv⟩
  · exact Nat.le_trans (List.length_filter_le _ _) (by simp)
end
end Go.Am

/- The abstract machine: code, calls. -/
namespace Go.Am
set_option linter.unusedVariables false
section
variable {P : Program}

def AExit.exit' : AExit → Exit
  | .normal => .normal
  | .exit id => .exit id
  | .ret => .ret

/-- The code comes to that exit with these slots and rows, in every world that is as the rows. -/
def Leads (P : Program) (c : Code) (a : Slots) (h : AW) (e : AExit) (a' : Slots) (h' : AW) : Prop :=
  ∀ {ρ : Env} {act : Act} {w : World} {Q : Exit → Act → World → Prop}, LRel ρ a act.tmps.toList → act.defers = [] → HRel P ρ h w →
    (∀ ρ' act' w', LRel ρ' a' act'.tmps.toList → act'.defers = [] → HRel P ρ' h' w' → Turn ρ h w ρ' h' w' → Q e.exit' act' w') → c.wp P Q act w

theorem rounds_sound {c : Code} {body : Slots → AW → Option (AExit × Slots × AW)} (hb : ∀ {a h e a' h'}, body a h = some (e, a', h') → Leads P c a h e a' h') {n : Nat} {a a' : Slots} {h h' : AW} {e : AExit} (er : rounds body n a h = some (e, a', h')) :
    Leads P (.loop c) a h e a' h' := by
  intro ρ act w Q hr hd H hQ
  let J : Nat → Act → World → Prop := fun n act₁ w₁ => ∃ a₁ h₁ ρ₁, rounds body n a₁ h₁ = some (e, a', h') ∧ LRel ρ₁ a₁ act₁.tmps.toList ∧ act₁.defers = [] ∧ HRel P ρ₁ h₁ w₁ ∧ Turn ρ h w ρ₁ h₁ w₁
  refine wp_loop_n J (n := n) ⟨a, h, ρ, er, hr, hd, H, Turn.refl _ _ _⟩ ?_
  rintro n act₁ w₁ ⟨a₁, h₁, ρ₁, er₁, hr₁, hd₁, H₁, T₁⟩
  cases n with
  | zero => simp [rounds] at er₁
  | succ n =>
    simp only [rounds] at er₁
    split at er₁
    · rename_i a₂ h₂ hbody
      refine hb hbody hr₁ hd₁ H₁ fun ρ₂ act₂ w₂ hr₂ hd₂ H₂ T₂ => ?_
      exact ⟨n, by omega, a₂, h₂, ρ₂, er₁, hr₂, hd₂, H₂, T₁.trans T₂⟩
    · rename_i hnot
      refine hb er₁ hr₁ hd₁ H₁ fun ρ₂ act₂ w₂ hr₂ hd₂ H₂ T₂ => ?_
      have := hQ ρ₂ act₂ w₂ hr₂ hd₂ H₂ (T₁.trans T₂)
      cases e with
      | normal => exact (hnot _ _ er₁).elim
      | exit id => exact this
      | ret => exact this

theorem code_sound {call : FuncId → List Value → AW → Option (Value × AW)} (hg : noGo P = true) (hmix : P.follows .mixedOrders = true) (hc : Sound P call) (fuel : Nat) : ∀ (c : Code) {a a' : Slots} {h h' : AW} {e : AExit}, code P call fuel c a h = some (e, a', h') → Leads P c a h e a' h' := by
  intro c
  induction c with
  | skip =>
    intro a a' h h' e er ρ act w Q hr hd H hQ
    simp [code] at er
    obtain ⟨rfl, rfl, rfl⟩ := er
    exact wp_skip (hQ ρ act w hr hd H (Turn.refl _ _ _))
  | region id ops draw =>
    intro a a' h h' e er ρ act w Q hr hd H hQ
    simp only [code] at er
    split at er
    · split at er
      case h_2 => cases er
      rename_i a₁ h₁ hops
      simp at er
      obtain ⟨rfl, rfl, rfl⟩ := er
      exact draw_sound hg hmix hc hops hr hd H (fun ρ' act' w' a b c d => hQ ρ' act' w' a b c d)
    · split at er
      case h_2 => cases er
      rename_i a₁ h₁ hops
      simp at er
      obtain ⟨rfl, rfl, rfl⟩ := er
      refine wp_region ?_
      have := runOps_sound (Q := Q) hg hc ops ops.toList 0 rfl hops hr hd H (fun ρ' act' w' a b c d => hQ ρ' act' w' a b c d)
      rw [List.range_eq_range']
      simpa using this
  | seq x y ihx ihy =>
    intro a a' h h' e er ρ act w Q hr hd H hQ
    simp only [code] at er
    refine wp_seq ?_
    split at er
    · rename_i a₁ h₁ hx
      exact ihx hx hr hd H fun ρ₁ act₁ w₁ hr₁ hd₁ H₁ T₁ => ihy er hr₁ hd₁ H₁ fun ρ₂ act₂ w₂ hr₂ hd₂ H₂ T₂ => hQ ρ₂ act₂ w₂ hr₂ hd₂ H₂ (T₁.trans T₂)
    · rename_i hnot
      refine ihx er hr hd H fun ρ₁ act₁ w₁ hr₁ hd₁ H₁ T₁ => ?_
      have := hQ ρ₁ act₁ w₁ hr₁ hd₁ H₁ T₁
      cases e with
      | normal => exact (hnot _ _ er).elim
      | exit id => exact this
      | ret => exact this
  | cond c x y ihx ihy =>
    intro a a' h h' e er ρ act w Q hr hd H hQ
    simp only [code] at er
    split at er
    · rename_i hv
      have hcr := aev_rel hr hv
      generalize hev : act.eval c = cv at hcr
      cases hcr
      exact wp_cond_true hev (ihx er hr hd H hQ)
    · rename_i hv
      have hcr := aev_rel hr hv
      generalize hev : act.eval c = cv at hcr
      cases hcr
      exact wp_cond_false hev (ihy er hr hd H hQ)
    · cases er
  | block id x ih =>
    intro a a' h h' e er ρ act w Q hr hd H hQ
    simp only [code] at er
    refine wp_block ?_
    split at er
    · rename_i id' a₁ h₁ hx
      split at er
      · rename_i hb
        have hb := of_beq hb
        subst hb
        simp at er
        obtain ⟨rfl, rfl, rfl⟩ := er
        refine ih hx hr hd H fun ρ₁ act₁ w₁ hr₁ hd₁ H₁ T₁ => ?_
        simp only [AExit.exit', Exit.inBlock, if_pos]
        exact hQ ρ₁ act₁ w₁ hr₁ hd₁ H₁ T₁
      · rename_i hb
        have hb := of_beq_f hb
        simp at er
        obtain ⟨rfl, rfl, rfl⟩ := er
        refine ih hx hr hd H fun ρ₁ act₁ w₁ hr₁ hd₁ H₁ T₁ => ?_
        simp only [AExit.exit', Exit.inBlock, if_neg hb]
        exact hQ ρ₁ act₁ w₁ hr₁ hd₁ H₁ T₁
    · rename_i hnot
      refine ih er hr hd H fun ρ₁ act₁ w₁ hr₁ hd₁ H₁ T₁ => ?_
      have := hQ ρ₁ act₁ w₁ hr₁ hd₁ H₁ T₁
      cases e with
      | normal => exact this
      | exit id => exact (hnot _ _ _ er).elim
      | ret => exact this
  | loop x ih =>
    intro a a' h h' e er
    simp only [code] at er
    exact rounds_sound (fun hb => ih hb) er
  | exit id =>
    intro a a' h h' e er ρ act w Q hr hd H hQ
    simp [code] at er
    obtain ⟨rfl, rfl, rfl⟩ := er
    exact wp_exit (hQ ρ act w hr hd H (Turn.refl _ _ _))
  | ret =>
    intro a a' h h' e er ρ act w Q hr hd H hQ
    simp [code] at er
    obtain ⟨rfl, rfl, rfl⟩ := er
    exact wp_ret (hQ ρ act w hr hd H (Turn.refl _ _ _))
  | _ => intro a a' h h' e er; simp [code] at er

theorem undefs_eq (n : Nat) : undefs n = List.replicate n undef := by
  induction n with
  | zero => rfl
  | succ n ih => simp [undefs, ih, List.replicate_succ]
theorem undefs_rel {ρ : Env} (n : Nat) : LRel ρ (undefs n) (List.replicate n undef) := by
  induction n with
  | zero => exact .nil
  | succ n ih => exact .cons undef_rel ih

/-- One result, as the model reads it. -/
def readRes (tmps : Array Value) : ResultVar → Sem Value
  | .tmp t => pure (tmps.getD t undef)
  | .cell x t => do loadVar t (← asAddr (tmps.getD x undef))

theorem results_sound {ρ : Env} {a : Slots} {act : Act} {h : AW} {w : World} (hr : LRel ρ a act.tmps.toList) (H : HRel P ρ h w) : ∀ {rs : List ResultVar} {vs : List Value}, resultsB P a h rs = some vs →
    ∃ us, (rs.mapM (readRes act.tmps)).run P w = Result.ok us w ∧ LRel ρ vs us
  | [], vs, e => by simp [resultsB] at e; subst e; exact ⟨[], rfl, .nil⟩
  | .tmp t :: rest, vs, e => by
    simp only [resultsB] at e
    split at e
    case h_2 => cases e
    rename_i v vs' hv hvs
    simp at e; subst e
    obtain ⟨us, hrun, hrel⟩ := results_sound hr H hvs
    obtain ⟨u, hu, hvr⟩ := hr.get hv
    rw [Array.getElem?_toList] at hu
    refine ⟨u :: us, ?_, .cons hvr hrel⟩
    rw [List.mapM_cons]
    simp only [readRes, Sem.run_bind, Sem.run_pure, Result.andThen_ok, hrun]
    rw [Array.getD_eq_getD_getElem?, hu]; rfl
  | .cell x t :: rest, vs, e => by
    simp only [resultsB] at e
    split at e
    case h_2 => cases e
    rename_i p hp
    split at e
    case h_2 => cases e
    rename_i v vs' hv hvs
    simp at e; subst e
    obtain ⟨us, hrun, hrel⟩ := results_sound hr H hvs
    obtain ⟨u, hu, hpr⟩ := hr.get hp
    rw [Array.getElem?_toList] at hu
    have hgd : act.tmps.getD x undef = u := by rw [Array.getD_eq_getD_getElem?, hu]; rfl
    unfold loadB at hv
    split at hv
    case h_2 => cases hv
    rename_i r off
    split at hv
    case h_2 => cases hv
    rename_i cs hrow
    cases hpr with
    | ptr hl =>
      obtain ⟨z, hz, hzr⟩ := run_loadVar H hrow hl hv
      refine ⟨z :: us, ?_, .cons hzr hrel⟩
      rw [List.mapM_cons]
      simp only [readRes, hgd, Sem.run_bind, asAddr, Sem.run_pure, Result.andThen_ok, hz, hrun]

theorem tupleB_rel {ρ : Env} {vs us : List Value} (hr : LRel ρ vs us) : VRel ρ (tupleB vs) (if h : (⟨us⟩ : Array Value).size = 1 then (⟨us⟩ : Array Value)[0] else .tuple ⟨us⟩) := by
  cases hr with
  | nil => exact .tuple .nil
  | cons h1 h2 =>
    cases h2 with
    | nil => exact h1
    | cons h3 h4 =>
      rw [dif_neg (by simp)]
      exact .tuple (.cons h1 (.cons h3 h4))

theorem results_run {fn : Func} {tmps : Array Value} {w : World} : (results fn tmps).run P w = (((fn.results.toList).mapM (readRes tmps)).run P w).andThen fun us w => .ok (if h : (⟨us⟩ : Array Value).size = 1 then (⟨us⟩ : Array Value)[0] else .tuple ⟨us⟩) w := by
  have hfun : results fn tmps = (do
      let vs ← fn.results.mapM (readRes tmps)
      pure (if h : vs.size = 1 then vs[0] else .tuple vs)) := by
    unfold results
    congr 1
  rw [hfun, Array.mapM_eq_mapM_toList]
  simp only [Sem.run_bind, Sem.run_map]
  generalize Sem.run P (List.mapM _ fn.results.toList) w = q
  cases q <;> rfl

theorem callB_sound (hg : noGo P = true) (hmix : P.follows .mixedOrders = true) {known : Known} (hk : Sound P known) (fuel : Nat) : ∀ n, Sound P (callB P known fuel n) := by
  intro n
  induction n with
  | zero => intro f args h v h' e; simp [callB] at e
  | succ n ih =>
    intro f args h v h' e
    simp only [callB] at e
    split at e
    case h_1 => cases e
    rename_i fn hf
    split at e
    case h_1 => cases e
    rename_i c hb
    refine ⟨⟨fn, c, hf, hb⟩, ?_⟩
    split at e
    · rename_i r hkn
      simp at e; subst e
      exact (hk f args h v h' hkn).2
    · split at e
      case h_2 => cases e
      rename_i a ha
      have ha := join_eq ha
      intro ρ us w hus H
      refine calls_of_wp hf hb ?_
      have hlen := hus.length
      have hr : LRel ρ a ((⟨us⟩ : Array Value) ++ Array.replicate (fn.ntmps - (⟨us⟩ : Array Value).size) undef).toList := by
        rw [ha]
        simp only [Array.toList_append, Array.toList_replicate]
        refine hus.append ?_
        rw [hlen]
        exact undefs_rel _
      split at e
      case h_1 => cases e
      case h_3 => cases e
      rename_i ex a₁ h₁ hnot hcode
      split at e
      case h_2 => cases e
      rename_i vs hvs
      simp at e
      obtain ⟨rfl, rfl⟩ := e
      refine code_sound hg hmix ih fuel c hcode (act := { tmps := _, defers := [] }) hr rfl H fun ρ₁ act₁ w₁ hr₁ hd₁ H₁ T₁ => ?_
      obtain ⟨us₁, hrun, hrel⟩ := results_sound hr₁ H₁ hvs
      have hpost : act₁.defers = [] ∧ ∃ v, (results fn act₁.tmps).run P w₁ = .ok v w₁ ∧ ∃ u ρ', Ending.returned v = .returned u ∧ VRel ρ' (tupleB vs) u ∧ HRel P ρ' h₁ w₁ ∧ Turn ρ h w ρ' h₁ w₁ :=
        ⟨hd₁, _, by rw [results_run, hrun]; rfl, _, ρ₁, rfl, tupleB_rel hrel, H₁, T₁⟩
      cases ex with
      | normal => exact hpost
      | exit id => first | exact (hnot _ _ _ rfl).elim | exact (hnot _ rfl).elim | exact (hnot _ _ _ hcode).elim
      | ret => exact hpost

theorem nothing_sound : Sound P nothing := fun _ _ _ _ _ e => by cases e

theorem empty_rel (w : World) : HRel P (fun _ => none) AW.empty w :=
  ⟨fun r row hr => (by cases hr), fun _ _ _ _ _ _ hr => (by cases hr), fun _ => rfl, (by decide)⟩

/-- A closed call that the machine answers with true: so it is in every world, and nothing that was there has turned. -/
theorem closed_true (hg : noGo P = true) (hmix : P.follows .mixedOrders = true) {known : Known} (hk : Sound P known) {fuel depth : Nat} {f : FuncId} (e : answersTrue P known fuel depth f = true) (w : World) :
    Calls P f #[] w fun e w' => e = .returned (.bool true) ∧ RowKit.Below w.heap.size w w' := by
  unfold answersTrue at e
  split at e
  · rename_i b h' hcall
    subst e
    refine ((callB_sound hg hmix hk fuel depth f [] AW.empty _ h' hcall).2 (fun _ => none) [] w .nil (empty_rel w)).mono ?_
    rintro en w' ⟨u, ρ', rfl, hv, H, T⟩
    cases hv
    exact ⟨rfl, T.os, T.tape, T.output, T.size, fun k hk => T.keep k hk fun r row l hr => (by cases hr)⟩
  · cases e
end
end Go.Am

/- The abstract machine, step by step: rules for texts whose values are not known as numbers. -/
namespace Go.Am
set_option linter.unusedVariables false
section
variable {P : Program}

theorem wpIn_loop_n {F : Fence} {n' : Nat} {P : Program} {c : Code} {Q : Exit → Act → World → Prop} (J : Nat → Act → World → Prop) {n : Nat} {a : Act} {w : World} (h₀ : J n a w)
    (round : ∀ n a w, J n a w → c.wpIn F n' P (Exit.then (fun a' w' => ∃ m, m < n ∧ J m a' w') Q) a w) : (Code.loop c).wpIn F n' P Q a w := by
  intro b k cs hro hb hr
  have key : ∀ n a w, J n a w → ∃ e a' w', Q e a' w' ∧ ArrivesIn (Machine.fenced P F) P (lone (b.atR a (.code c :: .inLoop c :: k)) cs w) b k cs e a' w' := by
    intro n
    induction n using Nat.strongRecOn with
    | _ n ih =>
      intro a w hI
      obtain ⟨e, a₁, w₁, hq, harr⟩ := round n a w hI b (.inLoop c :: k) cs hro hb hr
      cases e with
      | normal =>
        obtain ⟨m, hm, hJ⟩ := hq
        obtain ⟨e₂, a₂, w₂, hq₂, harr₂⟩ := ih m hm a₁ w₁ hJ
        exact ⟨e₂, a₂, w₂, hq₂, .of_steps (StepsIn.trans harr (.one (fenced_calm hb hr rfl) stepR_inLoop)) harr₂⟩
      | exit id => exact ⟨_, a₁, w₁, hq, .pass (x := .inLoop c) rfl (fun _ _ => .inl (by simp)) harr⟩
      | goto l => exact ⟨_, a₁, w₁, hq, .pass (x := .inLoop c) rfl (fun _ _ => .inl (by simp)) harr⟩
      | ret => exact ⟨_, a₁, w₁, hq, .pass (x := .inLoop c) rfl (fun _ _ => .inl (by simp)) harr⟩
      | panic ch => exact ⟨_, a₁, w₁, hq, .pass (x := .inLoop c) rfl (fun _ _ => .inl (by simp)) harr⟩
      | outgrown => exact ⟨_, a₁, w₁, hq, .pass (x := .inLoop c) rfl (fun _ _ => .inl (by simp)) harr⟩
  obtain ⟨e, a', w', hq, harr⟩ := key n a w h₀
  exact ⟨e, a', w', hq, .of_steps (.one (fenced_calm hb hr rfl) stepR_loop) harr⟩

/-- The wide fence, in a frame of that make: a round's, or a plain one. -/
def wideAt (ro : Option Nat) : Fence := { Fence.wide with round := ro }
/-- The round's row. -/
inductive RdRel (ρ : Env) : Option Nat → Option Nat → Prop
  | none : RdRel ρ none none
  | some {r : Nat} {l : Loc} (h : ρ r = some l) : RdRel ρ (some r) (some l.block)
theorem RdRel.mono {ρ ρ' : Env} {rd ro : Option Nat} (h : RdRel ρ rd ro) (le : ρ.le ρ') : RdRel ρ' rd ro := by
  cases h with
  | none => exact .none
  | some e => exact .some (le _ _ e)
theorem callsIn_at {ro : Option Nat} {n : Nat} {P : Program} {f : FuncId} {args : Array Value} {w : World} {R : Ending → World → Prop} : CallsIn (wideAt ro) n P f args w R ↔ Calls P f args w R :=
  (Iff.rfl : CallsIn (wideAt ro) n P f args w R ↔ CallsIn Fence.wide n P f args w R).trans callsIn_wide

/-- The activation's deferred calls are marks alone: each names a block of its own in which no call waits, and no row of ours lies there. -/
structure Marks (n₀ : Nat) (ρ : Env) (h : AW) (w : World) (ds : List Deferred) : Prop where
  base : n₀ ≤ w.heap.size
  each : ∀ d, d ∈ ds → ∃ D, d.target = .collected D ∧ n₀ ≤ D ∧ w.heap[D]? = some (.deferred (some [])) ∧ ∀ r row l, h.get r = some row → row.own = true → ρ r = some l → l.block ≠ D
  nd : (ds.map (·.target)).Nodup
theorem Marks.nil (ρ : Env) (h : AW) (w : World) : Marks w.heap.size ρ h w [] := ⟨Nat.le_refl _, fun _ hd => (by cases hd), List.nodup_nil⟩
theorem Marks.turn {n₀ : Nat} {ρ ρ' : Env} {h h' : AW} {w w' : World} {ds : List Deferred} (M : Marks n₀ ρ h w ds) (T : Turn ρ h w ρ' h' w') : Marks n₀ ρ' h' w' ds := by
  refine ⟨Nat.le_trans M.base T.size, fun d hd => ?_, M.nd⟩
  obtain ⟨D, h1, h2, h3, h4⟩ := M.each d hd
  have hlt : D < w.heap.size := (Array.getElem?_eq_some_iff.1 h3).1
  refine ⟨D, h1, h2, (T.keep D hlt fun r row l a b c => h4 r row l a b c).trans h3, fun r row l a b c e => ?_⟩
  obtain ⟨r₀, row₀, l₀, a', b', c', e'⟩ := T.own r row l a b c (by rw [e]; exact hlt)
  exact h4 r₀ row₀ l₀ a' b' c' (e'.trans e)

theorem opB_noDefer {o : Oper} {a : Slots} {h : AW} {x : Res} (e : opB P a o h = some x) : ∀ c, o.op ≠ .defer c := by
  intro c hc
  simp only [opB, hc] at e
  cases e

/-- A call comes to a value and rows that are as R tells, in every world that is as the rows. -/
def CQ (P : Program) (f : FuncId) (args : List Value) (h : AW) (R : Value → AW → Prop) : Prop :=
  (∃ fn c, P.funcs[f]? = some fn ∧ fn.body = some c) ∧ ∀ ρ us w, LRel ρ args us → HRel P ρ h w →
    Calls P f ⟨us⟩ w fun e w' => ∃ v h' u ρ', e = .returned u ∧ R v h' ∧ VRel ρ' v u ∧ HRel P ρ' h' w' ∧ Turn ρ h w ρ' h' w'

/-- The operations from here on come to slots and rows that are as K tells. -/
def OQ (P : Program) (ops : List Oper) (rest : List Oper) (a : Slots) (h : AW) (K : Slots → AW → Prop) : Prop :=
  ∀ (ro : Option Nat) (ds : List Deferred) (opsA : Array Oper) (i : Nat) (ρ : Env) (act : Act) (w : World) (Q : Exit → Act → World → Prop), opsA.toList = ops → (∃ tl, ops.drop i = rest ++ tl) → LRel ρ a act.tmps.toList → act.defers = ds → HRel P ρ h w →
    (∀ a' h' ρ' act' w', K a' h' → LRel ρ' a' act'.tmps.toList → act'.defers = ds → HRel P ρ' h' w' → Turn ρ h w ρ' h' w' → Q .normal act' w') → wpOpsIn (wideAt ro) 0 P opsA Q (List.range' i rest.length) act w

/-- The code comes to an exit, slots and rows that are as R tells. -/
def LQ (rd : Option Nat) (P : Program) (c : Code) (a : Slots) (h : AW) (R : AExit → Slots → AW → Prop) : Prop :=
  ∀ (n₀ : Nat) (ro : Option Nat) (ρ : Env) (act : Act) (w : World) (Q : Exit → Act → World → Prop), RdRel ρ rd ro → LRel ρ a act.tmps.toList → Marks n₀ ρ h w act.defers → HRel P ρ h w →
    (∀ e a' h' ρ' act' w', R e a' h' → LRel ρ' a' act'.tmps.toList → Marks n₀ ρ' h' w' act'.defers → HRel P ρ' h' w' → Turn ρ h w ρ' h' w' → Q e.exit' act' w') → c.wpIn (wideAt ro) 0 P Q act w

theorem CQ.mono {f : FuncId} {args : List Value} {h : AW} {R R' : Value → AW → Prop} (c : CQ P f args h R) (hr : ∀ v h', R v h' → R' v h') : CQ P f args h R' :=
  ⟨c.1, fun ρ us w a b => (c.2 ρ us w a b).mono fun e w' ⟨v, h', u, ρ', e1, e2, e3⟩ => ⟨v, h', u, ρ', e1, hr _ _ e2, e3⟩⟩
theorem CQ.of_sound {call : FuncId → List Value → AW → Option (Value × AW)} (hs : Sound P call) {f : FuncId} {args : List Value} {h h' : AW} {v : Value} (e : call f args h = some (v, h')) : CQ P f args h fun v' h'' => v' = v ∧ h'' = h' :=
  ⟨(hs f args h v h' e).1, fun ρ us w a b => ((hs f args h v h' e).2 ρ us w a b).mono fun _ _ ⟨u, ρ', e1, e2⟩ => ⟨v, h', u, ρ', e1, ⟨rfl, rfl⟩, e2⟩⟩

theorem OQ.nil {ops : List Oper} {a : Slots} {h : AW} {K : Slots → AW → Prop} (k : K a h) : OQ P ops [] a h K := by
  intro ro ds opsA i ρ act w Q ho hd hr hdf H hQ
  exact hQ a h ρ act w k hr hdf H (Turn.refl _ _ _)

section
variable {ops rest : List Oper} {o : Oper} {a a₁ a' : Slots} {h h₁ h' : AW} {v : Value} {K : Slots → AW → Prop}
theorem drop_at {opsA : Array Oper} {i : Nat} (ho : opsA.toList = ops) (hd : ∃ tl, ops.drop i = (o :: rest) ++ tl) : opsA[i]? = some o ∧ ∃ tl, ops.drop (i + 1) = rest ++ tl := by
  obtain ⟨tl, hd⟩ := hd
  constructor
  · rw [← Array.getElem?_toList, ho]
    have : (ops.drop i)[0]? = some o := by rw [hd]; rfl
    rwa [List.getElem?_drop, Nat.add_zero] at this
  · exact ⟨tl, by rw [← List.drop_drop, hd]; rfl⟩
theorem OQ.val (hw : wantedB ops o a = true) (e : opB P a o h = some (.val v h₁)) (ep : putAt a o.dst v = some a₁) (k : OQ P ops rest a₁ h₁ K) : OQ P ops (o :: rest) a h K := by
  intro ro ds opsA i ρ act w Q ho hd hr hdf H hQ
  obtain ⟨hoi, hrest⟩ := drop_at ho hd
  simp only [List.length_cons, List.range'_succ, wpOpsIn, hoi]
  rw [← wantedB_eq hr (by rw [ho]; exact sure_of_wanted hw), ho, hw, if_pos rfl]
  obtain ⟨n, u, w₁, ρ₁, hrun, hn, hv, H₁, T₁⟩ := opB_sound hr H e
  have hnext := k ro _ _ _ _ _ _ Q ho hrest (putAt_rel ep (hr.mono T₁.le) hv) (by rw [put_defers]; exact hdf) H₁ (fun a' h' ρ' act' w' kk a b c d => hQ a' h' ρ' act' w' kk a b c (T₁.trans d))
  refine ⟨fun _ _ => trivial, ?_⟩
  rw [Oper.semAt_eq _ _ _ (opB_noDefer e), hrun]
  rcases hn with rfl | ⟨rfl, rfl⟩ <;> exact hnext
theorem OQ.skip (hw : skipB ops o a = true) (ep : putAt a o.dst undef = some a₁) (k : OQ P ops rest a₁ h K) : OQ P ops (o :: rest) a h K := by
  intro ro ds opsA i ρ act w Q ho hd hr hdf H hQ
  obtain ⟨hoi, hrest⟩ := drop_at ho hd
  simp only [List.length_cons, List.range'_succ, wpOpsIn, hoi]
  obtain ⟨hw, hsure⟩ := skip_iff.1 hw
  rw [← wantedB_eq hr (by rw [ho]; exact hsure), ho, hw, if_neg (by simp)]
  exact ⟨fun _ _ => trivial, k ro _ _ _ _ _ _ Q ho hrest (putAt_rel ep hr undef_rel) (by rw [put_defers]; exact hdf) H hQ⟩
theorem OQ.call (hg : noGo P = true) {f : FuncId} {args : List Value} (hw : wantedB ops o a = true) (e : opB P a o h = some (.call f args)) (hc : CQ P f args h fun v h₁ => ∃ a₁, putAt a o.dst v = some a₁ ∧ OQ P ops rest a₁ h₁ K) :
    OQ P ops (o :: rest) a h K := by
  intro ro ds opsA i ρ act w Q ho hd hr hdf H hQ
  obtain ⟨hoi, hrest⟩ := drop_at ho hd
  simp only [List.length_cons, List.range'_succ, wpOpsIn, hoi]
  rw [← wantedB_eq hr (by rw [ho]; exact sure_of_wanted hw), ho, hw, if_pos rfl]
  obtain ⟨us, hus, hrun⟩ := opB_sound hr H e
  obtain ⟨⟨fn, c, hf, hb⟩, hcalls⟩ := hc
  refine ⟨fun _ _ => trivial, ?_⟩
  rw [Oper.semAt_eq _ _ _ (opB_noDefer e), hrun, run_callFunc hg hf hb]
  refine ⟨fun hh => (by cases hh), callsIn_at.2 ((hcalls ρ us w hus H).mono ?_)⟩
  rintro en w₁ ⟨v, h₁, u, ρ₁, rfl, ⟨a₁, ep, k⟩, hv, H₁, T₁⟩
  exact k ro _ _ _ _ _ _ Q ho hrest (putAt_rel ep (hr.mono T₁.le) hv) (by rw [put_defers]; exact hdf) H₁ (fun a' h' ρ' act' w' kk a b c d => hQ a' h' ρ' act' w' kk a b c (T₁.trans d))
/-- A function without a body, that the model stands in for: its value, whatever the world. -/
def Ext (P : Program) (f : FuncId) (args : List Value) (v : Value) : Prop :=
  ∃ fn ex, P.funcs[f]? = some fn ∧ (fn.name == "runtime.NumGoroutine") = false ∧ fn.body.isNone = true ∧ Extern.findNext fn = none ∧ Extern.find fn = some ex ∧ ∀ (ρ : Env) us w, LRel ρ args us → ∃ u, (ex ⟨us⟩).run P w = .ok u w ∧ VRel ρ v u
theorem OQ.ext {f : FuncId} {args : List Value} (hx : Ext P f args v) (hw : wantedB ops o a = true) (e : opB P a o h = some (.call f args)) (ep : putAt a o.dst v = some a₁) (k : OQ P ops rest a₁ h K) : OQ P ops (o :: rest) a h K := by
  intro ro ds opsA i ρ act w Q ho hd hr hdf H hQ
  obtain ⟨hoi, hrest⟩ := drop_at ho hd
  simp only [List.length_cons, List.range'_succ, wpOpsIn, hoi]
  rw [← wantedB_eq hr (by rw [ho]; exact sure_of_wanted hw), ho, hw, if_pos rfl]
  obtain ⟨us, hus, hrun⟩ := opB_sound hr H e
  obtain ⟨fn, ex, hf, hname, hb, hn, he, hx⟩ := hx
  obtain ⟨u, hex, hv⟩ := hx ρ us w hus
  have hnext := k ro _ _ _ _ _ _ Q ho hrest (putAt_rel ep hr hv) (by rw [put_defers]; exact hdf) H hQ
  refine ⟨fun _ _ => trivial, ?_⟩
  rw [Oper.semAt_eq _ _ _ (opB_noDefer e), hrun, run_callFunc_extern hf hname hb hn he, hex]
  exact hnext
end

/-- What comes behind the normal end, or the way out. -/
def Then (next : Slots → AW → Prop) (R : AExit → Slots → AW → Prop) : AExit → Slots → AW → Prop
  | .normal, a, h => next a h
  | e, a, h => R e a h
def Within (id : Nat) (R : AExit → Slots → AW → Prop) : AExit → Slots → AW → Prop
  | .exit id', a, h => if id' = id then R .normal a h else R (.exit id') a h
  | e, a, h => R e a h

section
variable {rd : Option Nat} {x y : Code} {a : Slots} {h : AW} {R : AExit → Slots → AW → Prop}
theorem LQ.skip (k : R .normal a h) : LQ rd P .skip a h R := fun _ _ _ _ _ _ _ hr hd H hQ => wpIn_skip (hQ .normal _ _ _ _ _ k hr hd H (Turn.refl _ _ _))
theorem LQ.ret (k : R .ret a h) : LQ rd P .ret a h R := fun _ _ _ _ _ _ _ hr hd H hQ => wpIn_ret (hQ .ret _ _ _ _ _ k hr hd H (Turn.refl _ _ _))
theorem LQ.exit {id : Nat} (k : R (.exit id) a h) : LQ rd P (.exit id) a h R := fun _ _ _ _ _ _ _ hr hd H hQ => wpIn_exit (hQ (.exit id) _ _ _ _ _ k hr hd H (Turn.refl _ _ _))
theorem LQ.region {id : Nat} {ops : Array Oper} {l : List Oper} (hl : ops.toList = l) (k : OQ P l l a h (R .normal)) : LQ rd P (.region id ops false) a h R := by
  intro n₀ ro ρ act w Q _ hr hd H hQ
  refine wpIn_region ?_
  have := k ro _ _ 0 _ _ _ Q hl ⟨[], by simp⟩ hr rfl H (fun a' h' ρ' act' w' kk a b c d => hQ .normal a' h' ρ' act' w' kk a (by rw [b]; exact hd.turn d) c d)
  rw [List.range_eq_range']
  rw [← hl] at this
  simpa using this
theorem LQ.seq (hx : LQ rd P x a h (Then (fun a h => LQ rd P y a h R) R)) : LQ rd P (.seq x y) a h R :=
  fun n₀ ro _ _ _ Q hrd hr hd H hQ => wpIn_seq (hx n₀ ro _ _ _ _ hrd hr hd H fun e a₁ h₁ ρ₁ act₁ w₁ k hr₁ hd₁ H₁ T₁ => by
    cases e with
    | normal => exact k n₀ ro _ _ _ Q (hrd.mono T₁.le) hr₁ hd₁ H₁ fun e a₂ h₂ ρ₂ act₂ w₂ k₂ hr₂ hd₂ H₂ T₂ => hQ e a₂ h₂ ρ₂ act₂ w₂ k₂ hr₂ hd₂ H₂ (T₁.trans T₂)
    | exit id => exact hQ (.exit id) a₁ h₁ ρ₁ act₁ w₁ k hr₁ hd₁ H₁ T₁
    | ret => exact hQ .ret a₁ h₁ ρ₁ act₁ w₁ k hr₁ hd₁ H₁ T₁)
theorem LQ.cond {c : Operand} {b : Bool} (hc : aev a c = some (.bool b)) (hx : b = true → LQ rd P x a h R) (hy : b = false → LQ rd P y a h R) : LQ rd P (.cond c x y) a h R := fun n₀ ro _ act _ _ hrd hr hd H hQ => by
  have hcr := aev_rel hr hc
  generalize hev : act.eval c = cv at hcr
  cases hcr
  cases b
  · exact wpIn_cond_false hev (hy rfl n₀ ro _ _ _ _ hrd hr hd H hQ)
  · exact wpIn_cond_true hev (hx rfl n₀ ro _ _ _ _ hrd hr hd H hQ)
theorem LQ.block {id : Nat} (hx : LQ rd P x a h (Within id R)) : LQ rd P (.block id x) a h R := fun n₀ ro _ _ _ _ hrd hr hd H hQ => wpIn_block (hx n₀ ro _ _ _ _ hrd hr hd H fun e a₁ h₁ ρ₁ act₁ w₁ k hr₁ hd₁ H₁ T₁ => by
  cases e with
  | normal => exact hQ .normal a₁ h₁ ρ₁ act₁ w₁ k hr₁ hd₁ H₁ T₁
  | ret => exact hQ .ret a₁ h₁ ρ₁ act₁ w₁ k hr₁ hd₁ H₁ T₁
  | exit id' =>
    simp only [AExit.exit', Exit.inBlock]
    simp only [Within] at k
    by_cases he : id' = id
    · rw [if_pos he] at k ⊢; exact hQ .normal a₁ h₁ ρ₁ act₁ w₁ k hr₁ hd₁ H₁ T₁
    · rw [if_neg he] at k ⊢; exact hQ (.exit id') a₁ h₁ ρ₁ act₁ w₁ k hr₁ hd₁ H₁ T₁)
theorem LQ.mono {R' : AExit → Slots → AW → Prop} (k : LQ rd P x a h R) (hr : ∀ e a h, R e a h → R' e a h) : LQ rd P x a h R' :=
  fun n₀ ro _ _ _ _ hrd hs hd H hQ => k n₀ ro _ _ _ _ hrd hs hd H fun e a' h' ρ' act' w' kk => hQ e a' h' ρ' act' w' (hr _ _ _ kk)

/-- A loop: what holds at each round's head, and a number that sinks. -/
theorem LQ.loop (I : Nat → Slots → AW → Prop) {n : Nat} (h₀ : I n a h) (round : ∀ n a h, I n a h → LQ rd P x a h (Then (fun a' h' => ∃ m, m < n ∧ I m a' h') R)) : LQ rd P (.loop x) a h R := by
  intro n₀ ro ρ act w Q hrd hr hd H hQ
  let J : Nat → Act → World → Prop := fun n act₁ w₁ => ∃ a₁ h₁ ρ₁, I n a₁ h₁ ∧ LRel ρ₁ a₁ act₁.tmps.toList ∧ Marks n₀ ρ₁ h₁ w₁ act₁.defers ∧ HRel P ρ₁ h₁ w₁ ∧ Turn ρ h w ρ₁ h₁ w₁
  refine wpIn_loop_n J (n := n) ⟨a, h, ρ, h₀, hr, hd, H, Turn.refl _ _ _⟩ ?_
  rintro n act₁ w₁ ⟨a₁, h₁, ρ₁, hI, hr₁, hd₁, H₁, T₁⟩
  refine round n a₁ h₁ hI n₀ ro _ _ _ _ (hrd.mono T₁.le) hr₁ hd₁ H₁ fun e a₂ h₂ ρ₂ act₂ w₂ k hr₂ hd₂ H₂ T₂ => ?_
  cases e with
  | normal =>
    obtain ⟨m, hm, hI₂⟩ := k
    exact ⟨m, hm, a₂, h₂, ρ₂, hI₂, hr₂, hd₂, H₂, T₁.trans T₂⟩
  | exit id => exact hQ (.exit id) a₂ h₂ ρ₂ act₂ w₂ k hr₂ hd₂ H₂ (T₁.trans T₂)
  | ret => exact hQ .ret a₂ h₂ ρ₂ act₂ w₂ k hr₂ hd₂ H₂ (T₁.trans T₂)

/-- What a body's end tells. -/
def Told (P : Program) (rs : List ResultVar) (R : Value → AW → Prop) : AExit → Slots → AW → Prop
  | .exit _, _, _ => False
  | _, a, h => ∃ vs, resultsB P a h rs = some vs ∧ R (tupleB vs) h

/-- A block of marks is turned: no row of ours lies there. -/
theorem HRel.putMark {ρ : Env} {w : World} {D : Nat} {ds : Option (List Deferred)} (H : HRel P ρ h w) (hD : w.heap[D]? = some (.deferred ds)) (ho : ∀ r row l, h.get r = some row → row.own = true → ρ r = some l → l.block ≠ D) (o : Obj) : HRel P ρ h (w.putObj D o) := by
  refine ⟨fun r row hr => ?_, H.inj, H.fresh, H.step⟩
  obtain ⟨l, hl, hrow⟩ := H.loc r row hr
  refine ⟨l, hl, ?_⟩
  by_cases e : l.block = D
  · cases hown : row.own with
    | true => exact absurd e (ho r row l hr hown hl)
    | false =>
      cases row with
      | ro cs =>
        refine ⟨by rw [World.putObj_size]; exact hrow.1, fun i v hv => ?_⟩
        obtain ⟨u, hu, _⟩ := hrow.2 i v hv
        simp only [World.cell?, e, hD] at hu
        cases hu
      | glob g cs =>
        refine ⟨hrow.1, by rw [World.putObj_size]; exact hrow.2.1, fun hc => ?_⟩
        obtain ⟨e1, f1, h3⟩ := hrow.2.2 hc
        rw [e, hD] at h3
        cases h3
      | _ => cases hown
  · exact hrow.keep (Env.le_refl _) (World.putObj_heap_other e)
theorem Turn.putMark {ρ ρ' : Env} {h' : AW} {w w' : World} {D : Nat} (T : Turn ρ h w ρ' h' w') (hD : w.heap.size ≤ D) (o : Obj) : Turn ρ h w ρ' h' (w'.putObj D o) :=
  ⟨T.le, T.os, T.tape, T.output, by rw [World.putObj_size]; exact T.size, T.own, fun k hk hn => (World.putObj_heap_other (by omega)).trans (T.keep k hk hn), T.new, T.next, T.steps⟩

theorem CQ.mk {f : FuncId} {fn : Func} {c : Code} {args : List Value} {a : Slots} {rs : List ResultVar} {R : Value → AW → Prop} (hf : P.funcs[f]? = some fn) (hb : fn.body = some c) (hrs : fn.results.toList = rs) (ha : join args (undefs (fn.ntmps - args.length)) = some a)
    (hl : LQ none P c a h (Told P rs R)) : CQ P f args h R := by
  refine ⟨⟨fn, c, hf, hb⟩, fun ρ us w hus H => ?_⟩
  have ha := join_eq ha
  refine callsIn_at (ro := none) (n := 0) |>.1 (callsIn_of_wp_marks hf hb trivial ?_ rfl)
  have hlen := hus.length
  have hr : LRel ρ a ((⟨us⟩ : Array Value) ++ Array.replicate (fn.ntmps - (⟨us⟩ : Array Value).size) undef).toList := by
    rw [ha]
    simp only [Array.toList_append, Array.toList_replicate]
    refine hus.append ?_
    rw [hlen]
    exact undefs_rel _
  refine hl w.heap.size none _ { tmps := _, defers := [] } _ _ .none hr (Marks.nil _ _ _) H fun e a' h' ρ₁ act₁ w₁ k hr₁ hd₁ H₁ T₁ => ?_
  have key : ∀ vs, resultsB P a' h' rs = some vs → R (tupleB vs) h' → LeavesInM (wideAt none) 0 P fn act₁.tmps (fun e w' => ∃ v h' u ρ', e = .returned u ∧ R v h' ∧ VRel ρ' v u ∧ HRel P ρ' h' w' ∧ Turn ρ h w ρ' h' w') act₁.defers .returning w₁ := by
    intro vs hv hR
    rw [← hrs] at hv
    generalize act₁.defers = ds at hd₁
    clear k
    induction ds generalizing w₁ with
    | nil =>
      obtain ⟨us₁, hrun, hrel⟩ := results_sound hr₁ H₁ hv
      exact ⟨_, by rw [results_run, hrun]; rfl, _, h', _, ρ₁, rfl, hR, tupleB_rel hrel, H₁, T₁⟩
    | cons d ds ih =>
      obtain ⟨D, h1, h2, h3, h4⟩ := hd₁.each d (List.mem_cons_self ..)
      refine ⟨by simp, .inl ⟨D, _, h1, run_takeDeferred h3, ?_⟩⟩
      refine ih _ (H₁.putMark h3 h4 _) (T₁.putMark h2 _) ⟨by rw [World.putObj_size]; exact hd₁.base, fun d' hd' => ?_, (List.nodup_cons.1 (by simpa using hd₁.nd)).2⟩
      obtain ⟨D', h1', h2', h3', h4'⟩ := hd₁.each d' (List.mem_cons_of_mem _ hd')
      refine ⟨D', h1', h2', (World.putObj_heap_other fun e => ?_).trans h3', h4'⟩
      subst e
      refine (List.nodup_cons.1 (by simpa using hd₁.nd)).1 (List.mem_map.2 ⟨d', hd', ?_⟩)
      rw [h1, h1']
  cases e with
  | exit id => exact k.elim
  | normal => obtain ⟨vs, hv, hR⟩ := k; exact key vs hv hR
  | ret => obtain ⟨vs, hv, hR⟩ := k; exact key vs hv hR
end
end
end Go.Am

/- The abstract machine: a step of a range over a map, whatever the order. -/
namespace Go.Am
open Go.MapKept
open Go.ChangeMaps (setBlock)
set_option linter.unusedVariables false
section
variable {P : Program} {ops rest : List Oper} {o : Oper} {a a₁ : Slots} {h h₁ : AW} {K : Slots → AW → Prop}

theorem ERel.find {ρ : Env} : ∀ {es es' : List MapEntry} {e' : MapEntry}, ERel ρ es es' → e' ∈ es' → ∃ e ∈ es, e.born = e'.born ∧ VRel ρ e.key e'.key ∧ VRel ρ e.val e'.val
  | [], es', e', R, hm => by
    obtain ⟨h1, _, _⟩ := R
    simp only [List.map_nil] at h1
    generalize hx : List.map (·.key) es' = ks at h1
    cases h1
    have : es' = [] := by simpa using hx
    subst this
    cases hm
  | x :: es, [], e', R, hm => by cases hm
  | x :: es, y :: es', e', R, hm => by
    obtain ⟨h1, h2, h3⟩ := R
    simp only [List.map_cons, List.cons.injEq] at h1 h2 h3
    cases h1 with
    | cons hk1 h1 =>
    cases h2 with
    | cons hv1 h2 =>
    rcases List.mem_cons.1 hm with rfl | hm
    · exact ⟨x, List.mem_cons_self .., h3.1, hk1, hv1⟩
    · obtain ⟨e, he, r⟩ := ERel.find (show ERel ρ es es' from ⟨h1, h2, h3.2⟩) hm
      exact ⟨e, List.mem_cons_of_mem _ he, r⟩
theorem ERel.borns {ρ : Env} {es es' : List MapEntry} (R : ERel ρ es es') {e : MapEntry} (he : e ∈ es) : ∃ e' ∈ es', e'.born = e.born := by
  have : e.born ∈ es'.map (·.born) := by rw [← R.2.2]; exact List.mem_map.2 ⟨e, he, rfl⟩
  obtain ⟨e', h1, h2⟩ := List.mem_map.1 this
  exact ⟨e', h1, h2⟩

theorem OQ.next {x : Operand} {r m since last clock : Nat} {seen : List Nat} {es : List MapEntry} (hw : wantedB ops o a = true) (ho : o.op = .next x false) (hx : aev a x = some (.pointer (some ⟨r, 0, none⟩)))
    (hg : h.get r = some (.iter m since seen last)) (hgm : h.get m = some (.map es clock)) (hold : ∀ e ∈ es, e.born < since) (hsl : since ≤ last)
    (kdone : (∀ e ∈ es, e.born ∈ seen) → ∃ a₁, putAt a o.dst (.tuple #[.bool false]) = some a₁ ∧ OQ P ops rest a₁ h K)
    (kstep : ∀ e ∈ es, e.born ∉ seen → ∃ a₁ h₁, putAt a o.dst (.tuple #[.bool true, e.key, e.val]) = some a₁ ∧ h.put r (some (.iter m since (seen ++ [e.born]) clock)) = some h₁ ∧ OQ P ops rest a₁ h₁ K) : OQ P ops (o :: rest) a h K := by
  intro ro ds opsA i ρ act w Q hops hd hr hdf H hQ
  obtain ⟨hoi, hrest⟩ := drop_at hops hd
  simp only [List.length_cons, List.range'_succ, wpOpsIn, hoi]
  rw [← wantedB_eq hr (by rw [hops]; exact sure_of_wanted hw), hops, hw, if_pos rfl]
  refine ⟨fun _ _ => trivial, ?_⟩
  rw [Oper.semAt_eq _ _ _ (fun c hc => by rw [ho] at hc; cases hc)]
  obtain ⟨l, lm, hl, hbase, hm, hh⟩ := H.at_iter hg
  obtain ⟨lm', es', hlm', hbm, R⟩ := H.at_map hgm
  rw [hm] at hlm'; simp only [Option.some.injEq] at hlm'; subst hlm'
  have hxr := aev_rel hr hx
  generalize hev : act.eval x = xv at hxr
  cases hxr with
  | ptr hl' =>
    rw [hl] at hl'; simp only [Option.some.injEq] at hl'; subst hl'
    have hold' : ∀ y ∈ es'.toList, y.born < since := fun y hy => by
      obtain ⟨e, he, hb, _⟩ := R.find hy
      rw [← hb]; exact hold e he
    have hex : ∀ u w', (Instr.next (.pointer (some ⟨l.block, 0, none⟩)) false o.type).run P w = .ok u w' → (execOp act.eval o).run P w = .ok (.value u) w' := fun u w' hrun => by
      simp only [execOp, ho, hev, hbase, Nat.zero_add]
      simp [hrun]
    rcases run_next_at (P := P) w o.type l.block lm.block since last ⟨seen⟩ es' clock hh hbm hold' hsl with ⟨hsz, hrun⟩ | ⟨e', hem, w1, hw1, hrun⟩
    · have hall : ∀ e ∈ es, e.born ∈ seen := fun e he => by
        obtain ⟨e', he', hb⟩ := R.borns he
        have hempty := Array.eq_empty_of_size_eq_zero hsz
        unfold leftOf at hempty
        rw [Array.filter_eq_empty_iff] at hempty
        have := hempty (a := e') (by simpa using he')
        simp at this
        rw [← hb]; exact this
      obtain ⟨a₁, ep, k⟩ := kdone hall
      rw [hex _ _ hrun]
      exact k ro _ _ _ _ _ _ Q hops hrest (putAt_rel ep hr (.tuple (.cons (.bool _) .nil))) (by rw [put_defers]; exact hdf) H hQ
    · have hmem : e' ∈ es'.toList ∧ e'.born ∉ seen := by
        unfold leftOf at hem
        simp at hem
        exact ⟨by simpa using hem.1, hem.2⟩
      obtain ⟨e, he, hb, hk, hv⟩ := R.find hmem.1
      obtain ⟨a₁, h₁, ep, hp, k⟩ := kstep e he (by rw [hb]; exact hmem.2)
      rw [hex _ _ hrun]
      have hh1 : w1.heap = w.heap := by rcases hw1 with rfl | rfl <;> rfl
      have H1 : HRel P ρ h w1 := H.draw hh1
      have hhb : w1.heap[l.block]? = some (.mapIter (some lm.block) since ⟨seen⟩ last) := by rw [hh1]; exact hh
      obtain ⟨A, B⟩ := H1.writeRow (o1 := .mapIter (some lm.block) since ((⟨seen⟩ : Array Nat).push e'.born) clock) hg rfl hl hhb hp (by
        refine ⟨hbase, lm, hm, ?_⟩
        rw [(heap_set hhb).1, hb]
        simp)
      have B' : Turn ρ h w ρ h₁ (setBlock w1 l.block (.mapIter (some lm.block) since ((⟨seen⟩ : Array Nat).push e'.born) clock)) := B.draw hh1 (by rcases hw1 with rfl | rfl <;> rfl) (by rcases hw1 with rfl | rfl <;> rfl) (by rcases hw1 with rfl | rfl <;> rfl)
      exact k ro _ _ _ _ _ _ Q hops hrest (putAt_rel ep hr (.tuple (.cons (.bool _) (.cons hk (.cons hv .nil))))) (by rw [put_defers]; exact hdf) A (fun a' h' ρ' act' w' kk x1 x2 x3 x4 => hQ a' h' ρ' act' w' kk x1 x2 x3 (B'.trans x4))
end
end Go.Am

