/- Closed runs by the machine's rules: regions in any order, ranges over functions, ranges over maps of one entry, functions that the model stands in for. -/
import Derived.Test.YtmdcfnnoeimakaaGreatDoorRx
import Derived.Scope
namespace Go.Am
open Go.MapKept
set_option linter.unusedVariables false
noncomputable section

def busyB : LoopState → Bool
  | .busy => true
  | _ => false
def readyB : LoopState → Bool
  | .ready => true
  | _ => false
theorem busyB_no {s : LoopState} (h : busyB s = false) : s ≠ .busy := by rintro rfl; cases h
theorem readyB_eq {s : LoopState} (h : readyB s = true) : s = .ready := by cases s <;> first | rfl | cases h

abbrev CallT := FuncId → List Value → AW → Option (Value × AW)
abbrev YieldT := Nat → List Value → AW → Option (Value × AW)
abbrev ExtT := FuncId → List Value → AW → Option (Value × AW)

/-- The entries that a range has not told yet. -/
def leftE (seen : List Nat) : List MapEntry → Option (List MapEntry)
  | [] => some []
  | e :: es => match leftE seen es with
    | some l => match hasNat seen e.born with
      | true => some l
      | false => some (e :: l)
    | none => none
def allBelow (n : Nat) : List MapEntry → Bool
  | [] => true
  | e :: es => match Nat.ble (e.born + 1) n with
    | true => allBelow n es
    | false => false
/-- A step of a range over a map, where the order does not matter: at most one entry is left. -/
def nextC (a : Slots) (o : Oper) (h : AW) : Option (Value × AW) :=
  match o.op with
  | .next x false => match aev a x with
    | some (.pointer (some ⟨r, 0, none⟩)) => match h.get r with
      | some (.iter m since seen last) => match h.get m with
        | some (.map es clock) => match allBelow since es && Nat.ble since last, leftE seen es with
          | true, some [] => some (.tuple #[.bool false], h)
          | true, some [e] => match join seen [e.born] with
            | some seen' => match h.put r (some (.iter m since seen' clock)) with
              | some h' => some (.tuple #[.bool true, e.key, e.val], h')
              | none => none
            | none => none
          | _, _ => none
        | _ => none
      | _ => none
    | _ => none
  | _ => none
/-- A call of a loop's yield. -/
def yieldOf (a : Slots) (o : Oper) : Option (Nat × List Value) :=
  match o.op with
  | .call c => match c.callee with
    | .value f => match aev a f with
      | some (.func (.yield r) ⟨[]⟩ ⟨[]⟩) => match evs a c.args.toList with
        | some vs => some (r, vs)
        | none => none
      | _ => none
    | _ => none
  | _ => none

/-- One operation of a region that stands in a row. -/
def stepC (P : Program) (xt : ExtT) (call : CallT) (yc : YieldT) (a : Slots) (o : Oper) (h : AW) : Option (Value × AW) :=
  match opB P a o h with
  | some (.val v h') => match fv v with
    | some v => some (v, h')
    | none => none
  | some (.call f args) => match xt f args h with
    | some r => some r
    | none => call f args h
  | none => match yieldOf a o with
    | some (r, vs) => match h.get r with
      | some (.loop _) => yc r vs h
      | _ => none
    | none => nextC a o h

def runC (P : Program) (xt : ExtT) (call : CallT) (yc : YieldT) (ops : List Oper) : List Oper → Slots → AW → Option (Slots × AW)
  | [], a, h => some (a, h)
  | o :: rest, a, h =>
    match wantedB ops o a with
    | true => match stepC P xt call yc a o h with
      | some (v, h') => match putAt a o.dst v with
        | some a' => runC P xt call yc ops rest a' h'
        | none => none
      | none => none
    | false => match skipB ops o a with
      | true => match putAt a o.dst undef with
        | some a' => runC P xt call yc ops rest a' h
        | none => none
      | false => none

/-! ### Regions that draw their order -/
/-- The first that may be done now: what leaves the rows alone first. -/
def firstR (P : Program) (ms : List Nat) (pre : Nat) (reads : Bool) : List Oper → Nat → Option Nat
  | [], _ => none
  | o :: rest, i =>
    match (readOp P o.op == reads && !(pre.testBit i)) && Nat.beq (Nat.land (mask ms i) pre) (mask ms i) with
    | true => fn i
    | false => firstR P ms pre reads rest (i + 1)
def schedB (P : Program) (ms : List Nat) (ops : List Oper) : Nat → Nat → Option (List (Nat × Bool))
  | 0, _ => some []
  | n + 1, pre => match firstR P ms pre true ops 0 with
    | some i => match fn (Nat.lor pre (2 ^ i)) with
      | some pre' => match schedB P ms ops n pre' with
        | some s => some ((i, false) :: s)
        | none => none
      | none => none
    | none => match firstR P ms pre false ops 0 with
      | some i => match fn (Nat.lor pre (2 ^ i)) with
        | some pre' => match schedB P ms ops n pre' with
          | some s => some ((i, true) :: s)
          | none => none
        | none => none
      | none => none
def opAt : List Oper → Nat → Option Oper
  | [], _ => none
  | o :: _, 0 => some o
  | _ :: os, n + 1 => opAt os n
theorem opAt_eq : ∀ (ops : List Oper) (i : Nat), opAt ops i = ops[i]?
  | [], _ => rfl
  | o :: _, 0 => rfl
  | _ :: os, n + 1 => opAt_eq os n
def all2 (f : Value → Value → Bool) : List Value → List Value → Bool
  | [], [] => true
  | x :: xs, y :: ys => match f x y with
    | true => all2 f xs ys
    | false => false
  | _, _ => false
/-- The same, whatever lies within. -/
def sameV : Nat → Value → Value → Bool
  | 0, _, _ => false
  | d + 1, x, y => match x, y with
    | .agg a, .agg b => all2 (sameV d) a.toList b.toList
    | .tuple a, .tuple b => all2 (sameV d) a.toList b.toList
    | .iface t v, .iface u w => Nat.beq t u && sameV d v w
    | .func (.func f) a b, .func (.func g) c e => Nat.beq f g && (all2 (sameV d) a.toList c.toList && all2 (sameV d) b.toList e.toList)
    | x, y => sameFlat x y
theorem all2_eq {f : Value → Value → Bool} (hf : ∀ x y, f x y = true → x = y) : ∀ {xs ys : List Value}, all2 f xs ys = true → xs = ys
  | [], [], _ => rfl
  | [], _ :: _, h => by cases h
  | _ :: _, [], h => by cases h
  | x :: xs, y :: ys, h => by
    simp only [all2] at h
    split at h
    · rename_i hx
      rw [hf x y hx, all2_eq hf h]
    · cases h
theorem sameV_eq : ∀ (d : Nat) (x y : Value), sameV d x y = true → x = y
  | 0, _, _, h => by cases h
  | d + 1, x, y, h => by
    simp only [sameV] at h
    split at h
    · rename_i a b
      rw [Array.toList_inj.1 (all2_eq (sameV_eq d) h)]
    · rename_i a b
      rw [Array.toList_inj.1 (all2_eq (sameV_eq d) h)]
    · simp only [Bool.and_eq_true] at h
      rw [of_beq h.1, sameV_eq d _ _ h.2]
    · simp only [Bool.and_eq_true] at h
      rw [of_beq h.1, Array.toList_inj.1 (all2_eq (sameV_eq d) h.2.1), Array.toList_inj.1 (all2_eq (sameV_eq d) h.2.2)]
    · exact sameFlat_eq h
/-- What was told ahead of what turns the rows, and may be told behind it: it is the same. -/
def againB (P : Program) (ops : List Oper) (ms : List Nat) (i : Nat) (h : AW) : Dn → Bool
  | [] => true
  | (j, b, u) :: dn => match ahead ms i j with
    | true => againB P ops ms i h dn
    | false => match opAt ops j with
      | some p => match opB P b p h with
        | some (.val v _) => match fv v with
          | some v => match readOp P p.op && sameV 20 v u with
            | true => againB P ops ms i h dn
            | false => false
          | none => false
        | _ => false
      | none => false
def runS (P : Program) (call : CallT) (ops : List Oper) (ms : List Nat) : List (Nat × Bool) → Dn → Slots → AW → Option (Slots × AW)
  | [], _, a, h => some (a, h)
  | (i, wr) :: sched, dn, a, h =>
    match opAt ops i with
    | none => none
    | some o => match wantedB ops o a with
      | false => match skipB ops o a with
        | true => match putAt a o.dst undef with
          | some a' => runS P call ops ms sched dn a' h
          | none => none
        | false => none
      | true => match wr with
        | false => match readOp P o.op with
          | true => match opB P a o h with
            | some (.val v _) => match fv v with
              | some v => match putAt a o.dst v with
                | some a' => runS P call ops ms sched ((i, a, v) :: dn) a' h
                | none => none
              | none => none
            | _ => none
          | false => none
        | true => match stepB P call a o h with
          | some (v, h') => match againB P ops ms i h' dn with
            | true => match putAt a o.dst v with
              | some a' => runS P call ops ms sched dn a' h'
              | none => none
            | false => none
          | none => none
def drawC (P : Program) (call : CallT) (ops : List Oper) (a : Slots) (h : AW) : Option (Slots × AW) :=
  match masksB ops [] with
  | some ms => match schedB P ms ops ops.length 0 with
    | some sched => match drawOk2 ops ms sched with
      | true => runS P call ops ms sched [] a h
      | false => none
    | none => none
  | none => none

/-! ### That it is so -/
section
variable {P : Program}
abbrev SQ (P : Program) (call : CallT) : Prop := ∀ f args h v h', call f args h = some (v, h') → CQ P f args h fun u g => u = v ∧ g = h'
abbrev YSd (P : Program) (yc : YieldT) : Prop := ∀ r vs h v h', yc r vs h = some (v, h') → YQ P r vs h fun u g => u = v ∧ g = h'
abbrev XSd (P : Program) (xt : ExtT) : Prop := ∀ f args h v h', xt f args h = some (v, h') → XQ P f args h fun u g => u = v ∧ g = h'

theorem leftE_spec {seen : List Nat} : ∀ {es l : List MapEntry}, leftE seen es = some l → ∀ e ∈ es, e.born ∉ seen → e ∈ l
  | [], l, h, e, he, _ => by cases he
  | x :: es, l, h, e, he, hn => by
    simp only [leftE] at h
    split at h
    case h_2 => cases h
    rename_i l' hl'
    rcases List.mem_cons.1 he with rfl | he
    · split at h
      · rename_i hh
        exact absurd (hasNat_mem.1 hh) hn
      · simp at h; subst h; exact List.mem_cons_self ..
    · have := leftE_spec hl' e he hn
      split at h
      · simp at h; subst h; exact this
      · simp at h; subst h; exact List.mem_cons_of_mem _ this
theorem leftE_mem {seen : List Nat} : ∀ {es l : List MapEntry}, leftE seen es = some l → ∀ e ∈ l, e ∈ es ∧ e.born ∉ seen
  | [], l, h, e, he => by simp [leftE] at h; subst h; cases he
  | x :: es, l, h, e, he => by
    simp only [leftE] at h
    split at h
    case h_2 => cases h
    rename_i l' hl'
    split at h
    · simp at h; subst h
      have := leftE_mem hl' e he
      exact ⟨List.mem_cons_of_mem _ this.1, this.2⟩
    · rename_i hh
      simp at h; subst h
      rcases List.mem_cons.1 he with rfl | he
      · refine ⟨List.mem_cons_self .., fun hm => ?_⟩
        rw [hasNat_mem.2 hm] at hh; cases hh
      · have := leftE_mem hl' e he
        exact ⟨List.mem_cons_of_mem _ this.1, this.2⟩
theorem allBelow_spec {n : Nat} : ∀ {es : List MapEntry}, allBelow n es = true → ∀ e ∈ es, e.born < n
  | [], _, e, he => by cases he
  | x :: es, h, e, he => by
    simp only [allBelow] at h
    split at h
    case h_2 => cases h
    rename_i hb
    have := of_ble hb
    rcases List.mem_cons.1 he with rfl | he
    · omega
    · exact allBelow_spec h e he

theorem OQ.stepC (hg : noGo P = true) {xt : ExtT} {call : CallT} {yc : YieldT} (hx : XSd P xt) (hc : SQ P call) (hy : YSd P yc) {ops rest : List Oper} {o : Oper} {a a₁ : Slots} {h h₁ : AW} {v : Value} {K : Slots → AW → Prop}
    (hw : wantedB ops o a = true) (e : stepC P xt call yc a o h = some (v, h₁)) (ep : putAt a o.dst v = some a₁) (k : OQ P ops rest a₁ h₁ K) : OQ P ops (o :: rest) a h K := by
  unfold Am.stepC at e
  split at e
  · rename_i v' h' hop
    split at e
    case h_2 => cases e
    rename_i u hf
    simp at e
    obtain ⟨rfl, rfl⟩ := e
    have := fv_eq hf; subst this
    exact OQ.val hw hop ep k
  · rename_i f args hop
    split at e
    · rename_i r hu
      simp only [Option.some.injEq] at e
      subst e
      refine OQ.resX hw (RES.of hop) ((hx f args h v h₁ hu).mono ?_)
      rintro u g ⟨rfl, rfl⟩
      exact ⟨a₁, ep, k⟩
    · refine OQ.call hg hw hop ((hc f args h v h₁ e).mono ?_)
      rintro u g ⟨rfl, rfl⟩
      exact ⟨a₁, ep, k⟩
  · split at e
    · rename_i r vs hyo
      split at e
      case h_2 => cases e
      rename_i p hp
      unfold yieldOf at hyo
      split at hyo
      case h_2 => cases hyo
      rename_i c hoc
      split at hyo
      case h_2 => cases hyo
      rename_i f hcc
      split at hyo
      case h_2 => cases hyo
      rename_i r' hf
      split at hyo
      case h_2 => cases hyo
      rename_i vs' hvs
      simp at hyo
      obtain ⟨rfl, rfl⟩ := hyo
      refine OQ.yield hw hoc hcc hf hvs ⟨p, hp⟩ ((hy _ _ h v h₁ e).mono ?_)
      rintro u g ⟨rfl, rfl⟩
      exact ⟨a₁, ep, k⟩
    · unfold nextC at e
      split at e
      case h_2 => cases e
      rename_i x hox
      split at e
      case h_2 => cases e
      rename_i r hxr
      split at e
      case h_2 => cases e
      rename_i m since seen last hr
      split at e
      case h_2 => cases e
      rename_i es clock hm
      split at e
      case h_3 => cases e
      · rename_i hb hl
        simp at e
        obtain ⟨rfl, rfl⟩ := e
        simp only [Bool.and_eq_true] at hb
        refine OQ.next hw hox hxr hr hm (allBelow_spec hb.1) (of_ble hb.2) (fun _ => ⟨a₁, ep, k⟩) fun e he hn => ?_
        have := leftE_spec hl e he hn
        cases this
      · rename_i x hb hl
        split at e
        case h_2 => cases e
        rename_i seen' hs
        split at e
        case h_2 => cases e
        rename_i h' hp
        simp at e
        obtain ⟨rfl, rfl⟩ := e
        simp only [Bool.and_eq_true] at hb
        have hs := join_eq hs
        subst hs
        refine OQ.next hw hox hxr hr hm (allBelow_spec hb.1) (of_ble hb.2) (fun hall => ?_) fun e he hn => ?_
        · have := leftE_mem hl x (List.mem_cons_self ..)
          exact absurd (hall x this.1) this.2
        · have := leftE_spec hl e he hn
          simp at this
          subst this
          exact ⟨a₁, _, ep, hp, k⟩

theorem OQ.runC (hg : noGo P = true) {xt : ExtT} {call : CallT} {yc : YieldT} (hx : XSd P xt) (hc : SQ P call) (hy : YSd P yc) {ops : List Oper} : ∀ {rest : List Oper} {a a' : Slots} {h h' : AW}, runC P xt call yc ops rest a h = some (a', h') → OQ P ops rest a h fun b g => b = a' ∧ g = h'
  | [], a, a', h, h', e => by
    simp [Am.runC] at e
    obtain ⟨rfl, rfl⟩ := e
    exact OQ.nil ⟨rfl, rfl⟩
  | o :: rest, a, a', h, h', e => by
    simp only [Am.runC] at e
    split at e
    · rename_i hw
      split at e
      case h_2 => cases e
      rename_i v h₁ hs
      split at e
      case h_2 => cases e
      rename_i a₁ ep
      exact OQ.stepC hg hx hc hy hw hs ep (OQ.runC hg hx hc hy e)
    · split at e
      case h_2 => cases e
      rename_i hw
      split at e
      case h_2 => cases e
      rename_i a₁ ep
      exact OQ.skip hw ep (OQ.runC hg hx hc hy e)

theorem again_spec {ops : List Oper} {ms : List Nat} {i : Nat} {h : AW} : ∀ {dn : Dn}, againB P ops ms i h dn = true → ∀ e, e ∈ dn → ahead ms i e.1 = false → ∀ p, ops[e.1]? = some p → StepQ P e.2.1 p h e.2.2
  | [], _, e, he => by cases he
  | (j, b, u) :: dn, hag, e, he => by
    intro hah p hp
    simp only [againB] at hag
    split at hag
    · rename_i hj
      rcases List.mem_cons.1 he with rfl | he
      · simp only at hah; rw [hah] at hj; cases hj
      · exact again_spec hag e he hah p hp
    · split at hag
      case h_2 => cases hag
      rename_i q hq
      rw [opAt_eq] at hq
      split at hag
      case h_2 => cases hag
      rename_i v h' hop
      split at hag
      case h_2 => cases hag
      rename_i v' hf
      split at hag
      case h_2 => cases hag
      rename_i hb
      simp only [Bool.and_eq_true] at hb
      rcases List.mem_cons.1 he with rfl | he
      · simp only at hp ⊢
        rw [hq] at hp
        simp only [Option.some.injEq] at hp
        subst hp
        obtain ⟨v'', e1⟩ := opB_read hb.1 hop
        have := fv_eq hf; subst this
        have := sameV_eq _ _ _ hb.2; subst this
        simp only [Res.val.injEq] at e1
        obtain ⟨rfl, rfl⟩ := e1
        exact .inl hop
      · exact again_spec hag e he hah p hp

theorem OD.runS {call : CallT} (hc : SQ P call) {ops : List Oper} {ms : List Nat} : ∀ {sched : List (Nat × Bool)} {dn : Dn} {a a' : Slots} {h h' : AW}, runS P call ops ms sched dn a h = some (a', h') → OD P ops ms (fun b g => b = a' ∧ g = h') sched dn a h
  | [], dn, a, a', h, h', e => by
    simp [Am.runS] at e
    obtain ⟨rfl, rfl⟩ := e
    simp only [OD]
    exact ⟨trivial, trivial⟩
  | (i, wr) :: sched, dn, a, a', h, h', e => by
    simp only [Am.runS] at e
    split at e
    case h_1 => cases e
    rename_i o ho
    rw [opAt_eq] at ho
    simp only [OD]
    refine ⟨o, ho, ?_⟩
    split at e
    · split at e
      case h_2 => cases e
      rename_i hw
      split at e
      case h_2 => cases e
      rename_i a₁ ep
      exact .inl ⟨hw, a₁, ep, OD.runS hc e⟩
    · rename_i hw
      split at e
      · split at e
        case h_2 => cases e
        rename_i hr
        split at e
        case h_2 => cases e
        rename_i v h₁ hop
        split at e
        case h_2 => cases e
        rename_i v' hf
        split at e
        case h_2 => cases e
        rename_i a₁ ep
        have := fv_eq hf; subst this
        obtain ⟨v'', e1⟩ := opB_read hr hop
        simp only [Res.val.injEq] at e1
        obtain ⟨rfl, rfl⟩ := e1
        exact .inr (.inl ⟨hw, rfl, _, a₁, .inl hop, ep, OD.runS hc e⟩)
      · split at e
        case h_2 => cases e
        rename_i v h₁ hs
        split at e
        case h_2 => cases e
        rename_i hag
        split at e
        case h_2 => cases e
        rename_i a₁ ep
        refine .inr (.inr ⟨hw, rfl, ?_⟩)
        unfold stepB at hs
        split at hs
        · rename_i v₀ h₀ hop
          split at hs
          case h_2 => cases hs
          rename_i v' hf
          simp at hs
          obtain ⟨rfl, rfl⟩ := hs
          have := fv_eq hf; subst this
          exact .inl ⟨_, _, hop, a₁, ep, again_spec hag, OD.runS hc e⟩
        · rename_i f args hop
          refine .inr ⟨f, args, hop, (hc f args h v h₁ hs).mono ?_⟩
          rintro u g ⟨rfl, rfl⟩
          exact ⟨a₁, ep, again_spec hag, OD.runS hc e⟩
        · cases hs
section
variable {b : Frame} {a : Act} {k : List Item} {cs : List Frame} {w : World}
theorem stepR_scopeC {c : Code} : step P (lone (b.atR a (.code (.scope c) :: k)) cs w) = .next (lone (b.atR a (.code c :: .inScope c :: k)) cs w) :=
  step_lone_go (by simp [stepG, stepG.exec, Frame.atR])
theorem stepR_inScopeC {c : Code} : step P (lone (b.atR a (.inScope c :: k)) cs w) = .next (lone (b.atR a k) cs w) :=
  step_lone_go (by simp [stepG, stepG.exec, Frame.atR])
theorem wpIn_scopeC {F : Fence} {n : Nat} {c : Code} {Q : Exit → Act → World → Prop} (h : c.wpIn F n P (Exit.noGoto Q) a w) : (Code.scope c).wpIn F n P Q a w := by
  intro b k cs hro hb hr
  have h0 : (lone (b.atR a (.code (.scope c) :: k)) cs w).fenced P F := fenced_calm hb hr rfl
  obtain ⟨e, a₁, w₁, hq, harr⟩ := h b (.inScope c :: k) cs hro hb hr
  cases e with
  | normal => exact ⟨.normal, a₁, w₁, hq, .head h0 stepR_scopeC (StepsIn.trans harr (.one (fenced_calm hb hr rfl) stepR_inScopeC))⟩
  | exit id =>
    have hx : exitTo id (.inScope c :: k) = exitTo id k := by simp [exitTo]
    exact ⟨.exit id, a₁, w₁, hq, fun k' hk => .head h0 stepR_scopeC (harr.1 k' (by rw [hx]; exact hk)),
      fun hr' hk => let ⟨k₁, h1, h2⟩ := harr.2 hr' (by rw [hx]; exact hk); ⟨k₁, h1, .head h0 stepR_scopeC h2⟩⟩
  | goto l => exact hq.elim
  | ret => exact ⟨_, a₁, w₁, hq, .of_steps (.one h0 stepR_scopeC) harr⟩
  | panic ch => exact ⟨_, a₁, w₁, hq, .of_steps (.one h0 stepR_scopeC) harr⟩
  | outgrown => exact ⟨_, a₁, w₁, hq, .of_steps (.one h0 stepR_scopeC) harr⟩
end
theorem LQ.labelC {rd : Option Nat} {l : Nat} {a : Slots} {h : AW} {R : AExit → Slots → AW → Prop} (k : R .normal a h) : LQ rd P (.label l) a h R := fun _ _ _ _ _ _ _ hr hd H hQ => wpIn_label (hQ .normal _ _ _ _ _ k hr hd H (Turn.refl _ _ _))
theorem LQ.scopeC {rd : Option Nat} {x : Code} {a : Slots} {h : AW} {R : AExit → Slots → AW → Prop} (k : LQ rd P x a h R) : LQ rd P (.scope x) a h R := fun n₀ ro _ _ _ Q hrd hr hd H hQ => wpIn_scopeC (k n₀ ro _ _ _ _ hrd hr hd H fun e a₁ h₁ ρ₁ act₁ w₁ kk hr₁ hd₁ H₁ T₁ => by
  have := hQ e a₁ h₁ ρ₁ act₁ w₁ kk hr₁ hd₁ H₁ T₁
  cases e <;> exact this)
theorem LQ.drawC {rd : Option Nat} (hg : noGo P = true) (hmix : P.follows .mixedOrders = true) {call : CallT} (hc : SQ P call) {id : Nat} {ops : Array Oper} {a a' : Slots} {h h' : AW} (e : drawC P call ops.toList a h = some (a', h')) : LQ rd P (.region id ops true) a h fun x b g => x = .normal ∧ b = a' ∧ g = h' := by
  unfold Am.drawC at e
  split at e
  case h_2 => cases e
  rename_i ms hm
  split at e
  case h_2 => cases e
  rename_i sched hs
  split at e
  case h_2 => cases e
  rename_i hok
  refine LQ.drawn2 hg hmix rfl hm hok ?_
  have := OD.runS hc e
  refine cast ?_ this
  congr 1
  funext b g
  simp
end
end
end Go.Am
