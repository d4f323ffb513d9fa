/- Closed runs: code, calls. -/
import Derived.Test.YtmdcfnnoeimakaaGreatDoorCx
namespace Go.Am
open Go.MapKept
set_option linter.unusedVariables false
noncomputable section

/-! ### Regions whose rows may be laid early -/
def hasDst (o : Oper) (n : Nat) : Bool := match o.dst with | some d => Nat.ble (d + 1) n | none => false
def predsIn (ms : List Nat) (pre : List Nat) (l : Nat) : Bool := (List.range l).all fun j => !ahead ms l j || hasNat pre j
def condLa (P : Program) (ops : List Oper) (ms pre : List Nat) (a : Slots) : List Nat → Bool
  | [] => true
  | l :: ls => match opAt ops l with
    | some o => match hasDst o a.length && (!predsIn ms pre l || (frB P a o).isSome) with
      | true => condLa P ops ms pre a ls
      | false => false
    | none => false
def remLa (ops : List Oper) (ms la pre : List Nat) : Bool := (List.range ops.length).all fun x => hasNat pre x || (hasNat la x || la.all fun l => ahead ms x l)
def remTurn (ops : List Oper) (ms la pre : List Nat) (i : Nat) : Bool := (List.range ops.length).all fun x => hasNat pre x || (Nat.beq x i || (hasNat la x || ahead ms x i))
def okS (ops : List Oper) (ms : List Nat) : List Nat → List (Nat × Bool) → Bool
  | pre, [] => (List.range ops.length).all fun x => hasNat pre x
  | pre, (i, wr) :: rest => match nextB ops ms pre i && (!wr || remTurn ops ms [] pre i) with
    | true => okS ops ms (i :: pre) rest
    | false => false
def ownT : Tr ARow → Bool
  | .nil => true
  | .node l v r => match v with
    | none => match ownT l with
      | true => ownT r
      | false => false
    | some row => match row.own with
      | true => match ownT l with
        | true => ownT r
        | false => false
      | false => false
def againAll (P : Program) (ops : List Oper) (h : AW) : Dn → Bool
  | [] => true
  | (j, b, u) :: dn => match opAt ops j with
    | some p => match opB P b p h with
      | some (.val v _) => match fv v with
        | some v => match readOp P p.op && sameV 20 v u with
          | true => againAll P ops h dn
          | false => false
        | none => false
      | _ => false
    | none => false
def runH (P : Program) (call : CallT) (ops : List Oper) (ms la : List Nat) (sched2 : List (Nat × Bool)) : List (Nat × Bool) → List Nat → Dn → Slots → AW → Option (Slots × AW)
  | [], pre, dn, a, h =>
    match condLa P ops ms pre a la && (remLa ops ms la pre && ownT h.rows) with
    | true => match revB P ops a la a h with
      | some (b, h') => match againAll P ops h' dn && okS ops ms (la ++ pre) sched2 with
        | true => runS P call ops ms sched2 dn b h'
        | false => none
      | none => none
    | false => none
  | (i, wr) :: sched, pre, dn, a, h =>
    match condLa P ops ms pre a la && (nextB ops ms pre i && !hasNat la i) with
    | false => none
    | true => match opAt ops i with
      | none => none
      | some o => match wantedB ops o a with
        | false => match skipB ops o a with
          | true => match putAt a o.dst undef with
            | some a' => runH P call ops ms la sched2 sched (i :: pre) dn a' h
            | none => none
          | false => none
        | true => match wr with
          | false => match readOp P o.op with
            | true => match opB P a o h with
              | some (.val v _) => match fv v with
                | some v => match putAt a o.dst v with
                  | some a' => runH P call ops ms la sched2 sched (i :: pre) ((i, a, v) :: dn) a' h
                  | none => none
                | none => none
              | _ => none
            | false => none
          | true => match remTurn ops ms la pre i with
            | true => match stepB P call a o h with
              | some (v, h') => match againB P ops ms i h' dn with
                | true => match putAt a o.dst v with
                  | some a' => runH P call ops ms la sched2 sched (i :: pre) dn a' h'
                  | none => none
                | false => none
              | none => none
            | false => none
def freshK (o : Oper) : Bool := match o.guard with
  | some _ => false
  | none => match o.op with
    | .alloc _ => true
    | .makeSlice _ _ _ => true
    | _ => false
/-- Does a turning operation stand in no order with it? -/
def freeB (P : Program) (ms : List Nat) (i : Nat) : List Oper → Nat → Bool
  | [], _ => false
  | o :: rest, j => match readOp P o.op || (Nat.beq i j || (ahead ms i j || ahead ms j i)) with
    | true => freeB P ms i rest (j + 1)
    | false => true
def laOf (P : Program) (ms : List Nat) (all : List Oper) : List Oper → Nat → Option (List Nat)
  | [], _ => some []
  | o :: rest, i => match laOf P ms all rest (i + 1) with
    | some la => match freshK o && freeB P ms i all 0 with
      | true => match fn i with
        | some i => some (i :: la)
        | none => none
      | false => some la
    | none => none
def maskOf : List Nat → Nat
  | [] => 0
  | i :: is => Nat.lor (2 ^ i) (maskOf is)
/-- All of these and all behind them. -/
def behindM (ms la : List Nat) (n : Nat) : Nat := maskOf ((List.range n).filter fun x => hasNat la x || la.any fun l => ahead ms x l)
def laOk (ms la : List Nat) : Bool := onceB la && la.all fun l => la.all fun k => !ahead ms l k
/-- In a row as long as there is something that may be done, but for what is not to be done. -/
def schedN (P : Program) (ms : List Nat) (ops : List Oper) (no : Nat) : Nat → Nat → Option (List (Nat × Bool))
  | 0, _ => some []
  | n + 1, pre => match firstR P ms (Nat.lor pre no) true ops 0 with
    | some i => match Nat.beq (Nat.land (mask ms i) pre) (mask ms i) with
      | false => none
      | true => match fn (Nat.lor pre (2 ^ i)) with
        | some pre' => match schedN P ms ops no n pre' with
          | some s => some ((i, false) :: s)
          | none => none
        | none => none
    | none => match firstR P ms (Nat.lor pre no) false ops 0 with
      | some i => match Nat.beq (Nat.land (mask ms i) pre) (mask ms i) with
        | false => none
        | true => match fn (Nat.lor pre (2 ^ i)) with
          | some pre' => match schedN P ms ops no n pre' with
            | some s => some ((i, true) :: s)
            | none => none
          | none => none
      | none => some []
def drawL (P : Program) (call : CallT) (ops : List Oper) (ms : List Nat) (a : Slots) (h : AW) : Option (Slots × AW) :=
  match laOf P ms ops ops 0 with
  | some la => match laOk ms la && ((onceB (dstsB ops) && backB ops 0) && allSorted ms ops ops 0) with
    | true => match fn (behindM ms la ops.length) with
      | some no => match schedN P ms ops no ops.length 0 with
        | some s1 => match schedN P ms ops 0 ops.length (Nat.lor (maskOf la) (maskOf (s1.map (·.1)))) with
          | some s2 => runH P call ops ms la s2 s1 [] [] a h
          | none => none
        | none => none
      | none => none
    | false => none
  | none => none
def drawD (P : Program) (call : CallT) (ops : List Oper) (a : Slots) (h : AW) : Option (Slots × AW) :=
  match masksB ops [] with
  | some ms => match schedB P ms ops ops.length 0 with
    | some sched => match drawOk2 ops ms sched with
      | true => runS P call ops ms sched [] a h
      | false => drawL P call ops ms a h
    | none => none
  | none => none

/-! ### Code -/
def codeC (P : Program) (xt : ExtT) (call : CallT) (yc : YieldT) (inR : Bool) (fuel : Nat) : Code → Slots → AW → Option (AExit × Slots × AW)
  | .skip, a, h => some (.normal, a, h)
  | .region id ops draw, a, h =>
    match draw with
    | true => match drawD P call ops.toList a h with
      | some (a', h') => some (.normal, a', h')
      | none => none
    | false => match runC P xt call yc ops.toList ops.toList a h with
      | some (a', h') => some (.normal, a', h')
      | none => none
  | .seq x y, a, h =>
    match codeC P xt call yc inR fuel x a h with
    | some (.normal, a', h') => codeC P xt call yc inR fuel y a' h'
    | some (.exit id, a', h') => some (.exit id, a', h')
    | some (.ret, a', h') => some (.ret, a', h')
    | none => none
  | .cond c x y, a, h =>
    match aev a c with
    | some (.bool true) => codeC P xt call yc inR fuel x a h
    | some (.bool false) => codeC P xt call yc inR fuel y a h
    | _ => none
  | .block id x, a, h =>
    match codeC P xt call yc inR fuel x a h with
    | some (.exit id', a', h') => match Nat.beq id' id with
      | true => some (.normal, a', h')
      | false => some (.exit id', a', h')
    | some (.normal, a', h') => some (.normal, a', h')
    | some (.ret, a', h') => some (.ret, a', h')
    | none => none
  | .loop x, a, h => rounds (codeC P xt call yc inR fuel x) fuel a h
  | .exit id, a, h => some (.exit id, a, h)
  | .ret, a, h => some (.ret, a, h)
  | .scope x, a, h => codeC P xt call yc inR fuel x a h
  | .label _, a, h => some (.normal, a, h)
  | .rangeFunc g ps assign body, a, h =>
    match inR with
    | true => none
    | false => match aev a g with
      | some (.func (.func f) ⟨[]⟩ ⟨captured⟩) => match h.new (.loop (LP.start a ps.toList assign body)) with
        | some (r, h₁) => match call f (.func (.yield r) #[] #[] :: captured) h₁ with
          | some (_, h₂) => match h₂.get r with
            | some (.loop p) => match busyB p.state, h₂.put r none with
              | false, some h₃ => match p.pending with
                | none => some (.normal, a, h₃)
                | some .ret => some (.ret, a, h₃)
                | some (.exit id) => some (.exit id, a, h₃)
                | _ => none
              | _, _ => none
            | _ => none
          | none => none
        | none => none
      | _ => none
  | _, _, _ => none

def roundC (code : Code → Slots → AW → Option (AExit × Slots × AW)) (r : Nat) (vs : List Value) (h : AW) : Option (Value × AW) :=
  match h.get r with
  | some (.loop p) => match readyB p.state, putAll p.slots p.params vs with
    | true, some a₀ => match code p.assign a₀ h with
      | some (.normal, a₁, h₁) => match h₁.get r with
        | some (.loop p₁) => match readyB p₁.state, h₁.put r (some (.loop p₁.busy)) with
          | true, some h₂ => match code p.body a₁ h₂ with
            | some (e, a₃, h₃) => match h₃.get r with
              | some (.loop p₃) => match h₃.put r (some (.loop (p₃.left e))) with
                | some h₄ => some (.bool e.goesOn, h₄)
                | none => none
              | _ => none
            | none => none
          | _, _ => none
        | _ => none
      | _ => none
    | _, _ => none
  | _ => none

/-- A call of a function, or (y) of the yield of a loop's row. -/
def goC (P : Program) (xt : ExtT) (known : Known) (fuel : Nat) : Nat → Bool → Nat → List Value → AW → Option (Value × AW)
  | 0, _, _, _, _ => none
  | n + 1, true, r, vs, h => roundC (codeC P xt (goC P xt known fuel n false) (goC P xt known fuel n true) true fuel) r vs h
  | n + 1, false, f, args, h =>
    match P.funcs[f]? with
    | none => none
    | some fn => match fn.body with
      | none => none
      | some c => match known f args h with
        | some r => some r
        | none => match join args (undefs (fn.ntmps - args.length)) with
          | some a => match codeC P xt (goC P xt known fuel n false) (goC P xt known fuel n true) false fuel c a h with
            | some (.exit _, _, _) => none
            | some (.normal, a, h') => match resultsB P a h' fn.results.toList with
              | some vs => some (tupleB vs, h')
              | none => none
            | some (.ret, a, h') => match resultsB P a h' fn.results.toList with
              | some vs => some (tupleB vs, h')
              | none => none
            | none => none
          | none => none

/-! ### That it is so -/
section
variable {P : Program}
theorem predsIn_spec {ops : List Oper} {ms pre : List Nat} {l : Nat} {o : Oper} (hO : Ord3 ops ms) (ho : ops[l]? = some o) (h : predsIn ms pre l = false) : ¬ ∀ j, ahead ms l j = true → j ∈ pre := fun hall => by
  unfold predsIn at h
  rw [List.all_eq_false] at h
  obtain ⟨j, hj, hn⟩ := h
  simp only [Bool.or_eq_true, Bool.not_eq_true', not_or] at hn
  have h1 : ahead ms l j = true := by simpa using hn.1
  exact hn.2 (hasNat_mem.2 (hall j h1))
theorem condLa_spec {ops : List Oper} {ms pre : List Nat} {a : Slots} (hO : Ord3 ops ms) : ∀ {la : List Nat}, condLa P ops ms pre a la = true → ∀ l, l ∈ la → (∃ o d, ops[l]? = some o ∧ o.dst = some d ∧ d < a.length) ∧ ((∀ j, ahead ms l j = true → j ∈ pre) → ∃ o d x, ops[l]? = some o ∧ o.dst = some d ∧ frB P a o = some x)
  | [], _, l, hl => by cases hl
  | k :: la, h, l, hl => by
    simp only [condLa] at h
    split at h
    case h_2 => cases h
    rename_i o ho
    rw [opAt_eq] at ho
    split at h
    case h_2 => cases h
    rename_i hc
    simp only [Bool.and_eq_true, Bool.or_eq_true, Bool.not_eq_true'] at hc
    rcases List.mem_cons.1 hl with rfl | hl
    · have h1 := hc.1
      unfold hasDst at h1
      split at h1
      case h_2 => cases h1
      rename_i d hd
      refine ⟨⟨o, d, ho, hd, of_ble h1⟩, fun hall => ?_⟩
      rcases hc.2 with h2 | h2
      · exact absurd hall (predsIn_spec hO ho h2)
      · obtain ⟨x, hx⟩ := Option.isSome_iff_exists.1 h2
        exact ⟨o, d, x, ho, hd, hx⟩
    · exact condLa_spec hO h l hl
theorem remTurn_spec {ops : List Oper} {ms la pre : List Nat} {i : Nat} (h : remTurn ops ms la pre i = true) : ∀ x o', ops[x]? = some o' → x ∉ pre → x = i ∨ x ∈ la ∨ ahead ms x i = true := fun x o' hx hn => by
  have := List.all_eq_true.1 h x (by simpa using (List.getElem?_eq_some_iff.1 hx).1)
  simp only [Bool.or_eq_true] at this
  rcases this with h1 | h1 | h1 | h1
  · exact absurd (hasNat_mem.1 h1) hn
  · exact .inl (of_beq h1)
  · exact .inr (.inl (hasNat_mem.1 h1))
  · exact .inr (.inr h1)
theorem remLa_spec {ops : List Oper} {ms la pre : List Nat} (h : remLa ops ms la pre = true) : ∀ x o', ops[x]? = some o' → x ∉ pre → x ∈ la ∨ ∀ l, l ∈ la → ahead ms x l = true := fun x o' hx hn => by
  have := List.all_eq_true.1 h x (by simpa using (List.getElem?_eq_some_iff.1 hx).1)
  simp only [Bool.or_eq_true, List.all_eq_true] at this
  rcases this with h1 | h1 | h1
  · exact absurd (hasNat_mem.1 h1) hn
  · exact .inl (hasNat_mem.1 h1)
  · exact .inr h1
theorem ownT_spec : ∀ {t : Tr ARow}, ownT t = true → ∀ r row, t.get r = some row → row.own = true
  | .nil, _, r, row, h => by simp [Tr.get_nil] at h
  | .node l v rr, h, r, row, hr => by
    rw [Tr.get_node] at hr
    have key : (∀ row, v = some row → row.own = true) ∧ ownT l = true ∧ ownT rr = true := by
      simp only [ownT] at h
      split at h
      · split at h
        · rename_i h1
          exact ⟨fun row hh => (by cases hh), h1, h⟩
        · cases h
      · split at h
        · rename_i row' h0
          split at h
          · rename_i h1
            exact ⟨fun row hh => (by cases hh; exact h0), h1, h⟩
          · cases h
        · cases h
    split at hr
    · exact key.1 row hr
    · split at hr
      · exact ownT_spec key.2.1 _ _ hr
      · exact ownT_spec key.2.2 _ _ hr
theorem againAll_spec {ops : List Oper} {h : AW} : ∀ {dn : Dn}, againAll P ops h dn = true → ∀ e, e ∈ dn → ∀ p, ops[e.1]? = some p → StepQ P e.2.1 p h e.2.2
  | [], _, e, he => by cases he
  | (j, b, u) :: dn, hag, e, he => by
    intro p hp
    simp only [againAll] at hag
    split at hag
    case h_2 => cases hag
    rename_i q hq
    rw [opAt_eq] at hq
    split at hag
    case h_2 => cases hag
    rename_i v h' hop
    split at hag
    case h_2 => cases hag
    rename_i v' hf
    split at hag
    case h_2 => cases hag
    rename_i hb
    simp only [Bool.and_eq_true] at hb
    rcases List.mem_cons.1 he with rfl | he
    · simp only at hp ⊢
      rw [hq] at hp
      simp only [Option.some.injEq] at hp
      subst hp
      obtain ⟨v'', e1⟩ := opB_read hb.1 hop
      have := fv_eq hf; subst this
      have := sameV_eq _ _ _ hb.2; subst this
      simp only [Res.val.injEq] at e1
      obtain ⟨rfl, rfl⟩ := e1
      exact .inl hop
    · exact againAll_spec hag e he p hp
theorem stepB_W {call : CallT} (hc : SQ P call) {a : Slots} {o : Oper} {h h' : AW} {v : Value} (hs : stepB P call a o h = some (v, h')) {R : Value → AW → Prop} (k : R v h') : StepW P a o h R := by
  unfold stepB at hs
  split at hs
  · rename_i v₀ h₀ hop
    split at hs
    case h_2 => cases hs
    rename_i v' hf
    simp at hs
    obtain ⟨rfl, rfl⟩ := hs
    have := fv_eq hf; subst this
    exact .inl ⟨_, _, hop, k⟩
  · rename_i f args hop
    refine .inr ⟨f, args, hop, (hc f args h v h' hs).mono ?_⟩
    rintro u g ⟨rfl, rfl⟩
    exact k
  · cases hs
theorem OG.runS {call : CallT} (hc : SQ P call) {ops : List Oper} {ms : List Nat} (hO : Ord3 ops ms) : ∀ {sched : List (Nat × Bool)} {pre : List Nat} {dn : Dn} {a a' : Slots} {h h' : AW}, okS ops ms pre sched = true → runS P call ops ms sched dn a h = some (a', h') → OG P ops ms (fun b g => b = a' ∧ g = h') sched.length pre dn a h
  | [], pre, dn, a, a', h, h', hk, e => by
    simp [Am.runS] at e
    obtain ⟨rfl, rfl⟩ := e
    simp only [List.length_nil, OG]
    simp only [okS] at hk
    refine ⟨fun i o hi => ?_, trivial, trivial⟩
    exact hasNat_mem.1 (List.all_eq_true.1 hk i (by simpa using (List.getElem?_eq_some_iff.1 hi).1))
  | (i, wr) :: sched, pre, dn, a, a', h, h', hk, e => by
    simp only [okS] at hk
    split at hk
    case h_2 => cases hk
    rename_i hk1
    simp only [Bool.and_eq_true, Bool.or_eq_true, Bool.not_eq_true'] at hk1
    obtain ⟨hni, hbe⟩ := nextB_of hO hk1.1
    simp only [Am.runS] at e
    split at e
    case h_1 => cases e
    rename_i o ho
    rw [opAt_eq] at ho
    simp only [List.length_cons, OG]
    split at e
    · split at e
      case h_2 => cases e
      rename_i hw
      split at e
      case h_2 => cases e
      rename_i a₁ ep
      exact .inl ⟨i, o, ho, hni, hbe, .inl ⟨hw, a₁, ep, OG.runS hc hO hk e⟩⟩
    · rename_i hw
      split at e
      · split at e
        case h_2 => cases e
        rename_i hr
        split at e
        case h_2 => cases e
        rename_i v h₁ hop
        split at e
        case h_2 => cases e
        rename_i v' hf
        split at e
        case h_2 => cases e
        rename_i a₁ ep
        have := fv_eq hf; subst this
        obtain ⟨v'', e1⟩ := opB_read hr hop
        simp only [Res.val.injEq] at e1
        obtain ⟨rfl, rfl⟩ := e1
        exact .inl ⟨i, o, ho, hni, hbe, .inr ⟨hw, _, a₁, .inl hop, ep, OG.runS hc hO hk e⟩⟩
      · split at e
        case h_2 => cases e
        rename_i v h₁ hs
        split at e
        case h_2 => cases e
        rename_i hag
        split at e
        case h_2 => cases e
        rename_i a₁ ep
        have hrem := remTurn_spec (hk1.2.resolve_left (by simp))
        refine .inr ⟨⟨i, o, ho, hni⟩, [i], fun x o' hx hnx => ?_, fun i' hi' => ?_⟩
        · rcases hrem x o' hx hnx with rfl | hh | hh
          · exact .inl (by simp)
          · cases hh
          · exact .inr ⟨i, by simp, hh⟩
        · simp only [List.mem_singleton] at hi'
          subst hi'
          exact ⟨o, ho, hni, hbe, hw, stepB_W hc hs ⟨a₁, ep, again_spec hag, OG.runS hc hO hk e⟩⟩
theorem OH.runH {call : CallT} (hc : SQ P call) {ops : List Oper} {ms la : List Nat} {s2 : List (Nat × Bool)} (hO : Ord3 ops ms) : ∀ {sched : List (Nat × Bool)} {pre : List Nat} {dn : Dn} {a a' : Slots} {h h' : AW}, runH P call ops ms la s2 sched pre dn a h = some (a', h') → OH P ops ms (fun b g => b = a' ∧ g = h') la sched.length pre dn a h
  | [], pre, dn, a, a', h, h', e => by
    simp only [Am.runH] at e
    split at e
    case h_2 => cases e
    rename_i hcd
    simp only [Bool.and_eq_true] at hcd
    split at e
    case h_2 => cases e
    rename_i b h₁ hrev
    split at e
    case h_2 => cases e
    rename_i hag
    simp only [Bool.and_eq_true] at hag
    simp only [List.length_nil, OH]
    exact ⟨fun l hl => (condLa_spec hO hcd.1 l hl).2, remLa_spec hcd.2.1, fun r row hr => ownT_spec hcd.2.2 r row hr, b, h₁, hrev, againAll_spec hag.1, _, OG.runS hc hO hag.2 e⟩
  | (i, wr) :: sched, pre, dn, a, a', h, h', e => by
    simp only [Am.runH] at e
    split at e
    case h_1 => cases e
    rename_i hcd
    simp only [Bool.and_eq_true, Bool.not_eq_true'] at hcd
    obtain ⟨hcd, hnx, hnl⟩ := hcd
    obtain ⟨hni, hbe⟩ := nextB_of hO hnx
    have hnl : i ∉ la := fun hh => by rw [hasNat_mem.2 hh] at hnl; cases hnl
    split at e
    case h_1 => cases e
    rename_i o ho
    rw [opAt_eq] at ho
    simp only [List.length_cons, OH]
    refine ⟨fun l hl => (condLa_spec hO hcd l hl).2, ?_⟩
    split at e
    · split at e
      case h_2 => cases e
      rename_i hw
      split at e
      case h_2 => cases e
      rename_i a₁ ep
      exact .inl ⟨i, o, ho, hni, hnl, hbe, .inl ⟨hw, a₁, ep, OH.runH hc hO e⟩⟩
    · rename_i hw
      split at e
      · split at e
        case h_2 => cases e
        rename_i hr
        split at e
        case h_2 => cases e
        rename_i v h₁ hop
        split at e
        case h_2 => cases e
        rename_i v' hf
        split at e
        case h_2 => cases e
        rename_i a₁ ep
        have := fv_eq hf; subst this
        obtain ⟨v'', e1⟩ := opB_read hr hop
        simp only [Res.val.injEq] at e1
        obtain ⟨rfl, rfl⟩ := e1
        exact .inl ⟨i, o, ho, hni, hnl, hbe, .inr ⟨hw, _, a₁, .inl hop, ep, OH.runH hc hO e⟩⟩
      · split at e
        case h_2 => cases e
        rename_i hrem
        split at e
        case h_2 => cases e
        rename_i v h₁ hs
        split at e
        case h_2 => cases e
        rename_i hag
        split at e
        case h_2 => cases e
        rename_i a₁ ep
        exact .inr ⟨i, o, ho, hni, hnl, hbe, remTurn_spec hrem, hw, stepB_W hc hs ⟨a₁, ep, again_spec hag, OH.runH hc hO e⟩⟩
theorem cond_len {call : CallT} {ops : List Oper} {ms la : List Nat} {s2 sched : List (Nat × Bool)} {a : Slots} {h : AW} {r : Slots × AW} (hO : Ord3 ops ms) (e : runH P call ops ms la s2 sched [] [] a h = some r) : ∀ l, l ∈ la → ∃ o d, ops[l]? = some o ∧ o.dst = some d ∧ d < a.length := by
  have : condLa P ops ms [] a la = true := by
    cases sched with
    | nil =>
      simp only [Am.runH] at e
      split at e
      case h_2 => cases e
      rename_i hcd
      simp only [Bool.and_eq_true] at hcd
      exact hcd.1
    | cons p sched =>
      obtain ⟨i, wr⟩ := p
      simp only [Am.runH] at e
      split at e
      case h_1 => cases e
      rename_i hcd
      simp only [Bool.and_eq_true] at hcd
      exact hcd.1
  exact fun l hl => (condLa_spec hO this l hl).1
theorem LQ.drawD {rd : Option Nat} (hg : noGo P = true) (hmix : P.follows .mixedOrders = true) {call : CallT} (hc : SQ P call) {id : Nat} {opsA : Array Oper} {a a' : Slots} {h h' : AW} (e : drawD P call opsA.toList a h = some (a', h')) : LQ rd P (.region id opsA true) a h fun x b g => x = .normal ∧ b = a' ∧ g = h' := by
  unfold Am.drawD at e
  split at e
  case h_2 => cases e
  rename_i ms hm
  split at e
  case h_2 => cases e
  rename_i sched hs
  split at e
  · rename_i hok
    refine LQ.drawn2 hg hmix rfl hm hok ?_
    refine cast ?_ (OD.runS hc e)
    congr 1
    funext b g
    simp
  · unfold Am.drawL at e
    split at e
    case h_2 => cases e
    rename_i la hla
    split at e
    case h_2 => cases e
    rename_i hok
    simp only [Bool.and_eq_true] at hok
    obtain ⟨hlo, hok⟩ := hok
    split at e
    case h_2 => cases e
    split at e
    case h_2 => cases e
    split at e
    case h_2 => cases e
    have hok' : ((onceB (dstsB opsA.toList) && backB opsA.toList 0) && allSorted ms opsA.toList opsA.toList 0) = true := by simp only [Bool.and_eq_true]; exact hok
    obtain ⟨hO, hback⟩ := ord3_of hm hok'
    have hlen := cond_len hO e
    simp only [laOk, Bool.and_eq_true, List.all_eq_true, Bool.not_eq_true'] at hlo
    have k := OH.runH hc hO e
    intro n₀ ro ρ act w Q _ hr hd H hQ
    refine wpIn_region_any hmix ?_
    have hempty : ∀ j, lst (Array.replicate opsA.size false) j = false := fun j => by
      unfold lst
      rw [Array.getD_eq_getD_getElem?, Array.getElem?_replicate]
      split <;> rfl
    have hw : ({ w with drawn := w.drawn + 1 } : World).heap = w.heap := rfl
    refine draw_any4 (ρ₀ := ρ) (h₀ := h) (w₀ := w) hg hm hO hback (la := la) (fun l l' hl hl' => hlo.2 l hl l' hl') (nodup_once hlo.1) (fun l hl => let ⟨o, d, h1, h2, _⟩ := hlen l hl; ⟨o, d, h1, h2⟩)
      (fun l o d hl ho hdd => by
        obtain ⟨o', d', h1, h2, h3⟩ := hlen l hl
        rw [ho] at h1; simp only [Option.some.injEq] at h1; subst h1
        rw [hdd] at h2; simp only [Option.some.injEq] at h2; subst h2
        exact h3)
      (ds := act.defers) (K := fun b g => b = a' ∧ g = h') (fun a₁ h₁ ρ' act' w' k' b c d t => hQ .normal a₁ h₁ ρ' act' w' ⟨rfl, k'⟩ b (by rw [c]; exact hd.turn t) d t) opsA.size _ act _ ρ h _ [] [] a (fun _ => undef) (fun _ => (0, [], none)) (fun _ => 0) (by simp) (fun i o hi => by rw [hempty] at hi; cases hi)
      ⟨k, rfl, fun j o d hb => (by simp at hb), fun t _ => rfl, fun j _ hj => (by rw [hempty] at hj; cases hj), fun j hj => (by simp at hj), fun p hp => (by simp at hp), fun j o hb => (by simp at hb), fun j o hj => (by rw [hempty] at hj; cases hj)⟩ (H.draw hw) (Turn.draw hw rfl rfl rfl (Turn.refl _ _ _)) ?_ rfl (fun j o d hj => by rw [hempty] at hj; cases hj) ?_ (fun j o d hj => by rw [hempty] at hj; cases hj) (fun j j' hj => by rw [hempty] at hj; cases hj) ?_
    · have := hr.length; simpa using this.symm
    · intro t x _ hx
      obtain ⟨u, hu', hv⟩ := hr.get hx
      rw [Array.getElem?_toList] at hu'
      exact ⟨u, hu', hv⟩
    · exact Nat.le_trans (List.length_filter_le _ _) (by simp)

theorem LQ.rangeFunc (hgo : noGo P = true) {g : Operand} {ps : Array Tmp} {assign body : Code} {a : Slots} {h : AW} {R : AExit → Slots → AW → Prop} {f : FuncId} {captured : List Value} {r : Nat} {h₁ : AW}
    (hg : aev a g = some (.func (.func f) #[] ⟨captured⟩)) (e₁ : h.new (.loop (LP.start a ps.toList assign body)) = some (r, h₁))
    (hc : CQ P f (.func (.yield r) #[] #[] :: captured) h₁ fun v h₂ => ∃ p h₃, h₂.get r = some (.loop p) ∧ p.state ≠ .busy ∧ h₂.put r none = some h₃ ∧ match p.pending with
      | none => R .normal a h₃
      | some .ret => R .ret a h₃
      | some (.exit id) => R (.exit id) a h₃
      | _ => False) : LQ none P (.rangeFunc g ps assign body) a h R := by
  obtain rfl := (new_eq e₁).1
  intro n₀ ro ρ act w Q hrd hr hd H hQ
  cases hrd
  refine wpIn_rangeFunc fun fn _ => ?_
  obtain ⟨H₀, T₀⟩ := H.laid (.deferred (some []))
  have M₀ := hd.push H
  have hsz : (w.alloc (.deferred (some []))).heap.size = w.heap.size + 1 := by simp
  obtain ⟨H₁, T₁⟩ := H₀.new_block (w' := (w.alloc (.deferred (some []))).alloc (.loop { state := .ready, pending := none, fn, tmps := act.tmps, params := ps, assign, body, defers := w.heap.size })) (l := ⟨w.heap.size + 1, 0, 0, 0⟩) e₁ (by simp) rfl rfl rfl (by simp) (fun k hk => by
      show ((w.alloc (.deferred (some []))).heap.push _)[k]? = _
      rw [Array.getElem?_push_lt hk, Array.getElem?_eq_getElem hk])
    ⟨fn, act.tmps, w.heap.size, by
      have := World.alloc_heap_new (w.alloc (.deferred (some []))) (.loop { state := .ready, pending := none, fn, tmps := act.tmps, params := ps, assign, body, defers := w.heap.size })
      rw [hsz] at this; exact this, hr.mono (upd_le (by exact H.fresh0))⟩
  have M₁ := M₀.turn T₁
  have hent := run_enterLoop_outer (P := P) (w := w) fn act.tmps ps assign body
  generalize (w.alloc (.deferred (some []))).alloc (.loop { state := .ready, pending := none, fn, tmps := act.tmps, params := ps, assign, body, defers := w.heap.size }) = W₁ at H₁ T₁ M₁ hent
  have hcr := aev_rel hr hg
  generalize hev : act.eval g = gv at hcr
  cases hcr with
  | @func _ _ b _ d _ hb hcap =>
    have hb0 : b = #[] := by
      cases b with | mk b => cases hb; rfl
    subst hb0
    obtain ⟨⟨fd, cd, hfd, hbd⟩, hcalls⟩ := hc
    refine ⟨w.heap.size + 1, _, W₁, { target := .fn (.func f) d, args := #[.func (.yield (w.heap.size + 1)) #[] #[]] }, W₁, f, #[.func (.yield (w.heap.size + 1)) #[] #[]] ++ d, W₁, hent, ?_, fun _ _ => trivial, (by simp only [invoke]; exact run_callFunc hgo hfd hbd _ _), fun hh => (by cases hh), callsIn_at.2 ?_⟩
    · simp only [resolve, hev]
      simp [Deferred.ofValue, Act.eval]
    · have hus : LRel (upd ρ h.next ⟨w.heap.size + 1, 0, 0, 0⟩) (.func (.yield h.next) #[] #[] :: captured) (#[Value.func (.yield (w.heap.size + 1)) #[] #[]] ++ d).toList := by
        rw [Array.toList_append]
        refine .cons (.yield (l := ⟨w.heap.size + 1, 0, 0, 0⟩) (by simp [upd])) (hcap.mono (upd_le (by exact H.fresh0)))
      refine (hcalls _ _ _ hus H₁).mono ?_
      rintro en w₂ ⟨v, h₂, u, ρ₂, rfl, ⟨p, h₃, hgp, hbusy, e₃, haft⟩, hv, H₂, T₂⟩
      have hlr : ρ₂ h.next = some ⟨w.heap.size + 1, 0, 0, 0⟩ := T₂.le _ _ (by simp [upd])
      obtain ⟨l', hl', fn₂, tmps₂, D₂, hrec₂, htm₂⟩ := H₂.loc _ _ hgp
      rw [hlr] at hl'; simp only [Option.some.injEq] at hl'; subst hl'
      obtain ⟨H₃, T₃⟩ := H₂.drop e₃
      refine ⟨p.pending, _, run_endLoop hrec₂ hbusy, ?_⟩
      have hno : ∀ r row l, h₃.get r = some row → row.own = true → ρ₂ r = some l → l.block ≠ w.heap.size + 1 := fun r row l hr ho hl e => by
        have hg3 := (put_eq e₃).1 r
        rw [hr] at hg3
        split at hg3
        · cases hg3
        · rename_i hne
          exact hne (H₂.inj r h.next row _ l _ hg3.symm hgp hl hlr e (.inl ho))
      have H₄ := H₃.putRec hrec₂ hno (.loop { state := .exhausted, pending := p.pending, fn := fn₂, tmps := tmps₂, params := ⟨p.params⟩, assign := p.assign, body := p.body, defers := D₂ })
      have T₀₃ := T₀.trans (T₁.trans (T₂.trans T₃))
      have T₄ := T₀₃.putMark (D := w.heap.size + 1) (by omega) (.loop { state := .exhausted, pending := p.pending, fn := fn₂, tmps := tmps₂, params := ⟨p.params⟩, assign := p.assign, body := p.body, defers := D₂ })
      have M₃ := M₁.turn (T₂.trans T₃)
      have M₄ : Marks n₀ ρ₂ h₃ (w₂.putObj (w.heap.size + 1) (.loop { state := .exhausted, pending := p.pending, fn := fn₂, tmps := tmps₂, params := ⟨p.params⟩, assign := p.assign, body := p.body, defers := D₂ })) ({ target := .collected w.heap.size, args := #[] } :: act.defers) := by
        refine ⟨by rw [World.putObj_size]; exact M₃.base, fun d hd => ?_, M₃.nd⟩
        obtain ⟨D, h1, h2, h3, h4⟩ := M₃.each d hd
        refine ⟨D, h1, h2, (World.putObj_heap_other fun e => ?_).trans h3, h4⟩
        subst e
        rw [hrec₂] at h3; cases h3
      have hr' : LRel ρ₂ a act.tmps.toList := hr.mono T₄.le
      have out : ∀ e, R e a h₃ → Q e.exit' { act with defers := { target := .collected w.heap.size, args := #[] } :: act.defers } (w₂.putObj (w.heap.size + 1) (.loop { state := .exhausted, pending := p.pending, fn := fn₂, tmps := tmps₂, params := ⟨p.params⟩, assign := p.assign, body := p.body, defers := D₂ })) := fun e hR =>
        hQ e a h₃ ρ₂ _ _ hR hr' M₄ H₄ T₄
      revert haft out
      cases p.pending with
      | none => exact fun haft out => out .normal haft
      | some c =>
        cases c with
        | ret => exact fun haft out => wpIn_ret (out .ret haft)
        | exit id => exact fun haft out => wpIn_exit (out (.exit id) haft)
        | _ => exact fun haft _ => haft.elim

theorem YQ.mk2 {r : Nat} {vs : List Value} {h : AW} {R : Value → AW → Prop} {p : LP} {a₀ : Slots} (hp : h.get r = some (.loop p)) (hst : p.state = .ready) (ha : putAll p.slots p.params vs = some a₀)
    (hx : LQ (some r) P p.assign a₀ h fun e a₁ h₁ => e = .normal ∧ ∃ p₁, h₁.get r = some (.loop p₁) ∧ p₁.state = .ready ∧ ∃ h₂, h₁.put r (some (.loop p₁.busy)) = some h₂ ∧
      LQ (some r) P p.body a₁ h₂ fun e a₃ h₃ => ∃ p₃, h₃.get r = some (.loop p₃) ∧ ∃ h₄, h₃.put r (some (.loop (p₃.left e))) = some h₄ ∧ R (.bool e.goesOn) h₄) : YQ P r vs h R := by
  intro ρ us w l hus H hl
  obtain ⟨l', hl', fn, tmps, D, hrec, htm⟩ := H.loc r _ hp
  rw [hl] at hl'; simp only [Option.some.injEq] at hl'; subst hl'
  obtain ⟨hlen, hrel⟩ := putAll_rel ha htm hus
  refine ⟨fn, _, p.assign, p.body, run_yield hrec (by simpa using hlen.symm), ?_⟩
  refine roundIn_of_wpIn (F := wideAt none) trivial ?_
  have hrel' : LRel ρ a₀ (((⟨p.params⟩ : Array Nat).zip (⟨us⟩ : Array Value)).foldl (fun t (q : Nat × Value) => t.setIfInBounds q.1 q.2) tmps).toList := by
    have e : ((⟨p.params⟩ : Array Nat).zip (⟨us⟩ : Array Value)).foldl (fun t (q : Nat × Value) => t.setIfInBounds q.1 q.2) tmps = (p.params.zip us).foldl (fun t (q : Nat × Value) => t.setIfInBounds q.1 q.2) tmps := by
      rw [← Array.foldl_toList]; simp
    rw [e]; exact hrel
  refine hx w.heap.size (some l.block) ρ _ w _ (.some hl) hrel' (Marks.nil _ _ _) H ?_
  rintro e a₁ h₁ ρ₁ act₁ w₁ ⟨rfl, p₁, hg₁, hst₁, h₂, hput, hbody⟩ hr₁ hd₁ H₁ T₁
  obtain ⟨l₁, hl₁, fn₁, tmps₁, D₁, hrec₁, htm₁⟩ := H₁.loc r _ hg₁
  rw [T₁.le _ _ hl] at hl₁; simp only [Option.some.injEq] at hl₁; subst hl₁
  have hsame : ({ state := p₁.state, pending := p₁.pending, fn := fn₁, tmps := tmps₁, params := ⟨p₁.params⟩, assign := p₁.assign, body := p₁.body, defers := D₁ } : Loop).state = .ready := hst₁
  refine ⟨_, run_beginRound hrec₁ hsame, ?_⟩
  obtain ⟨H₂, T₂⟩ := H₁.writeRow (o1 := .loop { state := .busy, pending := p₁.pending, fn := fn₁, tmps := tmps₁, params := ⟨p₁.params⟩, assign := p₁.assign, body := p₁.body, defers := D₁ }) (row1 := .loop p₁.busy) hg₁ rfl (T₁.le _ _ hl) hrec₁ hput
    ⟨fn₁, tmps₁, D₁, (heap_set hrec₁).1, htm₁⟩
  refine hbody w.heap.size (some l.block) ρ₁ act₁ _ _ (.some (T₁.le _ _ hl)) hr₁ (hd₁.turn T₂) H₂ ?_
  rintro e a₃ h₃ ρ₃ act₃ w₃ ⟨p₃, hg₃, h₄, hput₃, hR⟩ hr₃ hd₃ H₃ T₃
  have hl₃ := T₃.le _ _ (T₁.le _ _ hl)
  obtain ⟨l₃, hl₃', fn₃, tmps₃, D₃, hrec₃, htm₃⟩ := H₃.loc r _ hg₃
  rw [hl₃] at hl₃'; simp only [Option.some.injEq] at hl₃'; subst hl₃'
  have fin : ∀ jump : Option Code, (p₃.left e) = { p₃ with state := if jump.isNone then .ready else .done, pending := jump } → jump.isNone = e.goesOn → ∃ v w', (Instr.endRound l.block jump).run P w₃ = .ok v w' ∧
      ∃ v₁ h' u ρ', Ending.returned v = .returned u ∧ R v₁ h' ∧ VRel ρ' v₁ u ∧ HRel P ρ' h' w' ∧ Turn ρ h w ρ' h' w' := by
    intro jump hj he
    refine ⟨_, _, run_endRound jump hrec₃, ?_⟩
    obtain ⟨H₄, T₄⟩ := H₃.writeRow (o1 := .loop { state := if jump.isNone then .ready else .done, pending := jump, fn := fn₃, tmps := tmps₃, params := ⟨p₃.params⟩, assign := p₃.assign, body := p₃.body, defers := D₃ }) (row1 := .loop (p₃.left e)) hg₃ rfl hl₃ hrec₃ hput₃
      (by rw [hj]; exact ⟨fn₃, tmps₃, D₃, (heap_set hrec₃).1, htm₃⟩)
    exact ⟨.bool e.goesOn, h₄, _, ρ₃, rfl, hR, by rw [he]; exact .bool _, H₄, T₁.trans (T₂.trans (T₃.trans T₄))⟩
  cases e with
  | normal => exact fin none rfl rfl
  | ret => exact fin (some .ret) rfl rfl
  | exit id => exact fin (some (.exit id)) rfl rfl

/-- The code comes to that exit, those slots, those rows. -/
abbrev LT (rd : Option Nat) (P : Program) (c : Code) (a : Slots) (h : AW) (e : AExit) (a' : Slots) (h' : AW) : Prop := LQ rd P c a h fun x b g => x = e ∧ b = a' ∧ g = h'

theorem LQ.roundsC {rd : Option Nat} {c : Code} {body : Slots → AW → Option (AExit × Slots × AW)} (hb : ∀ {a h e a' h'}, body a h = some (e, a', h') → LT rd P c a h e a' h') {n : Nat} {a a' : Slots} {h h' : AW} {e : AExit} (er : rounds body n a h = some (e, a', h')) :
    LT rd P (.loop c) a h e a' h' := by
  refine LQ.loop (fun n b g => rounds body n b g = some (e, a', h')) (n := n) er ?_
  intro n b g er
  cases n with
  | zero => simp [rounds] at er
  | succ n =>
    simp only [rounds] at er
    split at er
    · rename_i a₂ h₂ hbody
      refine (hb hbody).mono ?_
      rintro x b' g' ⟨rfl, rfl, rfl⟩
      exact ⟨n, by omega, er⟩
    · rename_i hnot
      refine (hb er).mono ?_
      rintro x b' g' ⟨rfl, rfl, rfl⟩
      cases x with
      | normal => exact (hnot _ _ er).elim
      | exit id => exact ⟨rfl, rfl, rfl⟩
      | ret => exact ⟨rfl, rfl, rfl⟩

theorem LQ.codeC (hg : noGo P = true) (hmix : P.follows .mixedOrders = true) {xt : ExtT} {call : CallT} {yc : YieldT} (hx : XSd P xt) (hc : SQ P call) (hy : YSd P yc) {inR : Bool} {rd : Option Nat} (hrd : inR = false → rd = none) {fuel : Nat} : ∀ (c : Code) {a a' : Slots} {h h' : AW} {e : AExit},
    codeC P xt call yc inR fuel c a h = some (e, a', h') → LT rd P c a h e a' h' := by
  intro c
  induction c with
  | skip =>
    intro a a' h h' e er
    simp [Am.codeC] at er
    obtain ⟨rfl, rfl, rfl⟩ := er
    exact LQ.skip ⟨rfl, rfl, rfl⟩
  | region id ops draw =>
    intro a a' h h' e er
    simp only [Am.codeC] at er
    split at er
    · split at er
      case h_2 => cases er
      rename_i a₁ h₁ hops
      simp at er
      obtain ⟨rfl, rfl, rfl⟩ := er
      exact LQ.drawD hg hmix hc hops
    · split at er
      case h_2 => cases er
      rename_i a₁ h₁ hops
      simp at er
      obtain ⟨rfl, rfl, rfl⟩ := er
      refine LQ.region rfl ?_
      refine cast ?_ (OQ.runC hg hx hc hy hops)
      congr 1
      funext b g
      simp
  | seq x y ihx ihy =>
    intro a a' h h' e er
    simp only [Am.codeC] at er
    refine LQ.seq ?_
    split at er
    · rename_i a₁ h₁ hx
      refine (ihx hx).mono ?_
      rintro x b g ⟨rfl, rfl, rfl⟩
      exact ihy er
    · rename_i id a₁ h₁ hx
      simp at er
      obtain ⟨rfl, rfl, rfl⟩ := er
      refine (ihx hx).mono ?_
      rintro x b g ⟨rfl, rfl, rfl⟩
      exact ⟨rfl, rfl, rfl⟩
    · rename_i a₁ h₁ hx
      simp at er
      obtain ⟨rfl, rfl, rfl⟩ := er
      refine (ihx hx).mono ?_
      rintro x b g ⟨rfl, rfl, rfl⟩
      exact ⟨rfl, rfl, rfl⟩
    · cases er
  | cond c x y ihx ihy =>
    intro a a' h h' e er
    simp only [Am.codeC] at er
    split at er
    · rename_i hv
      exact LQ.cond hv (fun _ => ihx er) (fun hh => by cases hh)
    · rename_i hv
      exact LQ.cond hv (fun hh => by cases hh) (fun _ => ihy er)
    · cases er
  | block id x ih =>
    intro a a' h h' e er
    simp only [Am.codeC] at er
    refine LQ.block ?_
    split at er
    · rename_i id' a₁ h₁ hx
      split at er
      · rename_i hb
        have hb := of_beq hb
        subst hb
        simp at er
        obtain ⟨rfl, rfl, rfl⟩ := er
        refine (ih hx).mono ?_
        rintro x b g ⟨rfl, rfl, rfl⟩
        simp [Within]
      · rename_i hb
        have hb := of_beq_f hb
        simp at er
        obtain ⟨rfl, rfl, rfl⟩ := er
        refine (ih hx).mono ?_
        rintro x b g ⟨rfl, rfl, rfl⟩
        simp [Within, hb]
    · rename_i a₁ h₁ hx
      simp at er
      obtain ⟨rfl, rfl, rfl⟩ := er
      refine (ih hx).mono ?_
      rintro x b g ⟨rfl, rfl, rfl⟩
      exact ⟨rfl, rfl, rfl⟩
    · rename_i a₁ h₁ hx
      simp at er
      obtain ⟨rfl, rfl, rfl⟩ := er
      refine (ih hx).mono ?_
      rintro x b g ⟨rfl, rfl, rfl⟩
      exact ⟨rfl, rfl, rfl⟩
    · cases er
  | loop x ih =>
    intro a a' h h' e er
    simp only [Am.codeC] at er
    exact LQ.roundsC (fun hb => ih hb) er
  | exit id =>
    intro a a' h h' e er
    simp [Am.codeC] at er
    obtain ⟨rfl, rfl, rfl⟩ := er
    exact LQ.exit ⟨rfl, rfl, rfl⟩
  | ret =>
    intro a a' h h' e er
    simp [Am.codeC] at er
    obtain ⟨rfl, rfl, rfl⟩ := er
    exact LQ.ret ⟨rfl, rfl, rfl⟩
  | scope x ih =>
    intro a a' h h' e er
    simp only [Am.codeC] at er
    exact LQ.scopeC (ih er)
  | label l =>
    intro a a' h h' e er
    simp [Am.codeC] at er
    obtain ⟨rfl, rfl, rfl⟩ := er
    exact LQ.labelC ⟨rfl, rfl, rfl⟩
  | rangeFunc g ps assign body _ _ =>
    intro a a' h h' e er
    simp only [Am.codeC] at er
    split at er
    case h_1 => cases er
    obtain rfl := hrd rfl
    split at er
    case h_2 => cases er
    rename_i f captured hev
    split at er
    case h_2 => cases er
    rename_i r h₁ e₁
    split at er
    case h_2 => cases er
    rename_i u h₂ hcall
    split at er
    case h_2 => cases er
    rename_i p hgp
    split at er
    case h_2 => cases er
    rename_i h₃ hbusy e₃
    refine LQ.rangeFunc hg hev e₁ ((hc f _ h₁ u h₂ hcall).mono ?_)
    rintro v' g' ⟨rfl, rfl⟩
    refine ⟨p, h₃, hgp, busyB_no hbusy, e₃, ?_⟩
    split at er
    · rename_i hpend
      simp at er
      obtain ⟨rfl, rfl, rfl⟩ := er
      exact ⟨rfl, rfl, rfl⟩
    · rename_i hpend
      simp at er
      obtain ⟨rfl, rfl, rfl⟩ := er
      exact ⟨rfl, rfl, rfl⟩
    · rename_i id hpend
      simp at er
      obtain ⟨rfl, rfl, rfl⟩ := er
      exact ⟨rfl, rfl, rfl⟩
    · cases er
  | _ => intro a a' h h' e er; simp [Am.codeC] at er

theorem YQ.roundC {code : Code → Slots → AW → Option (AExit × Slots × AW)} {r : Nat} (hco : ∀ c {a a' : Slots} {h h' : AW} {e : AExit}, code c a h = some (e, a', h') → LT (some r) P c a h e a' h') {vs : List Value} {h h' : AW} {v : Value} (e : roundC code r vs h = some (v, h')) : YQ P r vs h fun u g => u = v ∧ g = h' := by
  unfold Am.roundC at e
  split at e
  case h_2 => cases e
  rename_i p hp
  split at e
  case h_2 => cases e
  rename_i a₀ hst ha
  split at e
  case h_2 => cases e
  rename_i a₁ h₁ hass
  split at e
  case h_2 => cases e
  rename_i p₁ hp₁
  split at e
  case h_2 => cases e
  rename_i h₂ hst₁ hput
  split at e
  case h_2 => cases e
  rename_i x a₃ h₃ hbody
  split at e
  case h_2 => cases e
  rename_i p₃ hp₃
  split at e
  case h_2 => cases e
  rename_i h₄ hput₃
  simp at e
  obtain ⟨rfl, rfl⟩ := e
  refine YQ.mk2 hp (readyB_eq hst) ha ((hco _ hass).mono ?_)
  rintro y b g ⟨rfl, rfl, rfl⟩
  refine ⟨rfl, p₁, hp₁, readyB_eq hst₁, h₂, hput, (hco _ hbody).mono ?_⟩
  rintro y b g ⟨rfl, rfl, rfl⟩
  exact ⟨p₃, hp₃, h₄, hput₃, rfl, rfl⟩

theorem goC_sound (hg : noGo P = true) (hmix : P.follows .mixedOrders = true) {xt : ExtT} {known : Known} (hx : XSd P xt) (hk : SQ P known) (fuel : Nat) : ∀ n, SQ P (goC P xt known fuel n false) ∧ YSd P (goC P xt known fuel n true) := by
  intro n
  induction n with
  | zero => exact ⟨fun f args h v h' e => by simp [goC] at e, fun r vs h v h' e => by simp [goC] at e⟩
  | succ n ih =>
    refine ⟨fun f args h v h' e => ?_, fun r vs h v h' e => ?_⟩
    · simp only [goC] at e
      split at e
      case h_1 => cases e
      rename_i fn hf
      split at e
      case h_1 => cases e
      rename_i c hb
      split at e
      · rename_i r hkn
        simp at e; subst e
        exact hk f args h v h' hkn
      · split at e
        case h_2 => cases e
        rename_i a ha
        split at e
        · cases e
        · rename_i a₁ h₁ hcode
          split at e
          case h_2 => cases e
          rename_i vs hvs
          simp at e
          obtain ⟨rfl, rfl⟩ := e
          refine CQ.mk hf hb rfl ha ((LQ.codeC hg hmix hx ih.1 ih.2 (fun _ => rfl) c hcode).mono ?_)
          rintro x b g ⟨rfl, rfl, rfl⟩
          exact ⟨vs, hvs, rfl, rfl⟩
        · rename_i a₁ h₁ hcode
          split at e
          case h_2 => cases e
          rename_i vs hvs
          simp at e
          obtain ⟨rfl, rfl⟩ := e
          refine CQ.mk hf hb rfl ha ((LQ.codeC hg hmix hx ih.1 ih.2 (fun _ => rfl) c hcode).mono ?_)
          rintro x b g ⟨rfl, rfl, rfl⟩
          exact ⟨vs, hvs, rfl, rfl⟩
        · cases e
    · simp only [goC] at e
      exact YQ.roundC (fun c => LQ.codeC hg hmix hx ih.1 ih.2 (fun hh => by cases hh) c) e

/-- A call without rows, of the closed run. -/
theorem CQ.still0 {f : FuncId} {args : List Value} {R : Value → Prop} (c : CQ P f args AW.empty fun v _ => R v ∧ Am.plain v = true) (ha : allPlain args = true) : ∀ h, CQ P f args h fun v h' => R v ∧ h' = h := by
  intro h
  refine ⟨c.1, fun ρ us w hus HR => ?_⟩
  have hus' := hus.plain_eq ha
  subst hus'
  refine (c.2 (fun _ => none) us w (.of_plain ha) (empty_rel w)).mono ?_
  rintro en w' ⟨v, h', u, ρ', rfl, ⟨hv, hp⟩, hvu, H', T⟩
  have hu := hvu.plain_eq hp
  subst hu
  have keep : ∀ k, k < w.heap.size → w'.heap[k]? = w.heap[k]? := fun k hk => T.keep k hk fun r row l hr => (by cases hr)
  refine ⟨u, h, u, ρ, rfl, ⟨hv, rfl⟩, .of_plain hp, ⟨fun r row hr => ?_, HR.inj, HR.fresh, HR.step⟩, ⟨Env.le_refl _, T.os, T.tape, T.output, T.size, fun r row l hr ho hl _ => ⟨r, row, l, hr, ho, hl, rfl⟩, fun k hk _ => keep k hk, fun _ _ e => .inl e, ⟨0, by simp⟩, rfl⟩⟩
  obtain ⟨l, hl, hr'⟩ := HR.loc r row hr
  exact ⟨l, hl, hr'.keep (Env.le_refl _) (keep _ hr'.lt)⟩

def saysC (P : Program) (xt : ExtT) (known : Known) (fuel depth : Nat) (f : FuncId) : Bool :=
  match goC P xt known fuel depth false f [] AW.empty with
  | some (.bool b, _) => b
  | _ => false
theorem CS.saysC (hg : noGo P = true) (hmix : P.follows .mixedOrders = true) {xt : ExtT} {known : Known} (hx : XSd P xt) (hk : SQ P known) {fuel depth : Nat} {f : FuncId} {L : RL} (e : saysC P xt known fuel depth f = true) : CS P f [] L fun v L' => v = .bool true ∧ L' = L := by
  unfold Am.saysC at e
  split at e
  · rename_i b h' hcall
    subst e
    intro h H
    refine (CQ.still0 (R := fun v => v = .bool true) (((goC_sound hg hmix hx hk fuel depth).1 f [] AW.empty _ _ hcall).mono ?_) rfl h).mono ?_
    · rintro v g ⟨rfl, rfl⟩
      exact ⟨rfl, rfl⟩
    · rintro v g ⟨rfl, rfl⟩
      exact ⟨L, ⟨rfl, rfl⟩, H⟩
  · cases e
def noExt : ExtT := fun _ _ _ => none
theorem noExt_sound : XSd P noExt := fun _ _ _ _ _ e => by cases e
theorem XQ.of_ext {f : FuncId} {args : List Value} {h : AW} {v : Value} (e : Am.Ext P f args v) : XQ P f args h fun u g => u = v ∧ g = h := by
  obtain ⟨fn, ex, h1, h2, h3, h4, h5, h6⟩ := e
  refine ⟨fn, ex, h1, h2, h3, h4, h5, fun ρ us w a b => ?_⟩
  obtain ⟨u, hr, hv⟩ := h6 ρ us w a
  exact ⟨v, h, ⟨rfl, rfl⟩, .quiet b hr hv⟩
/-- A map's own copy. -/
theorem XQ.mapsClone {f : FuncId} {fn : Func} {t : TypeId} {r r' : Nat} {es : List MapEntry} {clock : Nat} {h h' : AW} (hf : P.funcs[f]? = some fn) (hname : (fn.name == "runtime.NumGoroutine") = false) (hb : fn.body.isNone = true) (hn : Extern.findNext fn = none) (he : Extern.find fn = some Extern.MapsClone.clone)
    (hg : h.get r = some (.map es clock)) (e : h.new (.map es clock) = some (r', h')) : XQ P f [.iface t (.map (some r))] h fun v g => v = .iface t (.map (some r')) ∧ g = h' := by
  refine ⟨fn, _, hf, hname, hb, hn, he, fun ρ us w hus H => ?_⟩
  refine ⟨_, h', ⟨rfl, rfl⟩, ?_⟩
  cases hus with
  | cons h1 h2 =>
    cases h2
    cases h1 with
    | iface h1 =>
      cases h1 with
      | map hl =>
        rename_i l
        obtain ⟨l', es', hl', hh, R⟩ := H.at_map hg
        rw [hl] at hl'; simp only [Option.some.injEq] at hl'; subst hl'
        have hr := (new_eq e).1
        have hnone : ρ r' = none := by rw [hr]; exact H.fresh0
        obtain ⟨H', T'⟩ := H.new_block (w' := w.alloc (.map es' clock)) (l := ⟨w.heap.size, 0, 0, 0⟩) e rfl rfl rfl rfl (by simp) (fun k hk => by
          show (w.heap.push _)[k]? = _
          rw [Array.getElem?_push_lt hk, Array.getElem?_eq_getElem hk]) ⟨es', World.alloc_heap_new _ _, R.1.mono (upd_le hnone), R.2.1.mono (upd_le hnone), R.2.2⟩
        refine ⟨_, _, _, ?_, .iface (.map (l := ⟨w.heap.size, 0, 0, 0⟩) (by simp [upd])), H', T'⟩
        obtain ⟨s1, hdef⟩ : ∃ s1 : String, Extern.MapsClone.clone #[.iface t (.map (some l.block))] = (do
            match ← getObj l.block with
            | .map entries clock => do
              let b ← newObj (.map entries clock)
              pure (.iface t (.map (some b)))
            | _ => stuck s1) := ⟨_, rfl⟩
        rw [hdef, Sem.run_bind, Go.MapKept.run_getObj_map hh]
        simp
theorem nothingQ : SQ P nothing := fun _ _ _ _ _ e => by cases e
end
end
end Go.Am
