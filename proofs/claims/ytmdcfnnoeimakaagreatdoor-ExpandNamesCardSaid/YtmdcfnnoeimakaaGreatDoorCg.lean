/- Closed runs, with few steps for a reader by reduction: regions, code, calls. -/
import Derived.Test.YtmdcfnnoeimakaaGreatDoorCf
namespace Go.Am
open Go.MapKept
set_option linter.unusedVariables false
noncomputable section

def wantedS (ops : List Oper) (o : Oper) (sl : SL) : Bool :=
  match o.guard with
  | none => true
  | some (j, want) => match opAt ops j with
    | some p => match p.dst with
      | some d => match sl d with
        | some (.bool b) => b == want
        | _ => false
      | none => false
    | none => false
def sureS (ops : List Oper) (o : Oper) (sl : SL) : Bool :=
  match o.guard with
  | none => true
  | some (j, _) => match opAt ops j with
    | some p => match p.dst with
      | some d => match sl d with
        | some v => !isJ v
        | none => true
      | none => true
    | none => true
def skipS (ops : List Oper) (o : Oper) (sl : SL) : Bool := !wantedS ops o sl && sureS ops o sl
theorem wantedS_eq (ops : List Oper) (o : Oper) (a : Slots) : wantedS ops o (fun i => a[i]?) = wantedB ops o a := by
  unfold wantedS wantedB
  simp only [opAt_eq]
  rfl
theorem skipS_eq (ops : List Oper) (o : Oper) (a : Slots) : skipS ops o (fun i => a[i]?) = skipB ops o a := by
  unfold skipS skipB
  rw [wantedS_eq]
  congr 1
  unfold sureS sureB
  simp only [opAt_eq]
  rfl
def nextS (sl : SL) (o : Oper) (h : AW) : Option (Value × AW) :=
  match o.op with
  | .next x false => match aevS sl x with
    | some (.pointer (some ⟨r, 0, none⟩)) => match h.get r with
      | some (.iter m since seen last) => match h.get m with
        | some (.map es clock) => match allBelow since es && Nat.ble since last, leftE seen es with
          | true, some [] => some (.tuple #[.bool false], h)
          | true, some [e] => match join seen [e.born] with
            | some seen' => match h.put r (some (.iter m since seen' clock)) with
              | some h' => some (.tuple #[.bool true, e.key, e.val], h')
              | none => none
            | none => none
          | _, _ => none
        | _ => none
      | _ => none
    | _ => none
  | _ => none
def yieldS (sl : SL) (o : Oper) : Option (Nat × List Value) :=
  match o.op with
  | .call c => match c.callee with
    | .value f => match aevS sl f with
      | some (.func (.yield r) ⟨[]⟩ ⟨[]⟩) => match evsS sl c.args.toList with
        | some vs => some (r, vs)
        | none => none
      | _ => none
    | _ => none
  | _ => none
theorem nextS_eq (a : Slots) (o : Oper) (h : AW) : nextS (fun i => a[i]?) o h = nextC a o h := by
  unfold nextS nextC
  rw [aevS_eq]
  rfl
theorem yieldS_eq (a : Slots) (o : Oper) : yieldS (fun i => a[i]?) o = yieldOf a o := by
  unfold yieldS yieldOf
  rw [aevS_eq, evsS_eq]
  rfl
def stepF (P : Program) (xt : ExtT) (call : CallT) (yc : YieldT) (sl : SL) (o : Oper) (h : AW) : Option (Value × AW) :=
  match opS P sl o h with
  | some (.val v h') => match fv v with
    | some v => some (v, h')
    | none => none
  | some (.call f args) => match xt f args h with
    | some r => some r
    | none => call f args h
  | none => match yieldS sl o with
    | some (r, vs) => match h.get r with
      | some (.loop _) => yc r vs h
      | _ => none
    | none => nextS sl o h
abbrev CallLe (c d : CallT) : Prop := ∀ f args h r, c f args h = some r → d f args h = some r
abbrev YieldLe (c d : YieldT) : Prop := ∀ f args h r, c f args h = some r → d f args h = some r
theorem stepF_sim {P : Program} {xt : ExtT} {call call' : CallT} {yc yc' : YieldT} (hc : CallLe call call') (hy : YieldLe yc yc') {a : Slots} {o : Oper} {h : AW} {r : Value × AW} (e : stepF P xt call yc (fun i => a[i]?) o h = some r) : stepC P xt call' yc' a o h = some r := by
  unfold stepF at e
  unfold stepC
  rw [opS_eq, yieldS_eq, nextS_eq] at e
  split at e
  · rename_i v h' hop
    rw [hop]; exact e
  · rename_i f args hop
    rw [hop]
    simp only
    split at e
    · rename_i r' hx
      rw [hx]; exact e
    · rename_i hx
      rw [hx]; exact hc f args h r e
  · rename_i hop
    rw [hop]
    simp only
    split at e
    · rename_i r' vs hyo
      rw [hyo]
      simp only
      split at e
      · rename_i p hp
        rw [hp]; exact hy _ _ _ _ e
      · cases e
    · rename_i hyo
      rw [hyo]; exact e
def runF (P : Program) (xt : ExtT) (call : CallT) (yc : YieldT) (n : Nat) (ops : List Oper) (rest : List Oper) : Tr Value → AW → Option (Tr Value × AW) :=
  List.rec (motive := fun _ => Tr Value → AW → Option (Tr Value × AW)) (fun t h => some (t, h))
    (fun o _ ih t h => match wantedS ops o (getS n t) with
      | true => match stepF P xt call yc (getS n t) o h with
        | some (v, h') => match putS n t o.dst v with
          | some t' => ih t' h'
          | none => none
        | none => none
      | false => match skipS ops o (getS n t) with
        | true => match putS n t o.dst undef with
          | some t' => ih t' h
          | none => none
        | false => none) rest
theorem runF_sim {P : Program} {xt : ExtT} {call call' : CallT} {yc yc' : YieldT} (hc : CallLe call call') (hy : YieldLe yc yc') {n : Nat} {ops : List Oper} : ∀ {rest : List Oper} {t t' : Tr Value} {h h' : AW} {a : Slots}, Agr n t a → runF P xt call yc n ops rest t h = some (t', h') → ∃ a', Agr n t' a' ∧ runC P xt call' yc' ops rest a h = some (a', h')
  | [], t, t', h, h', a, g, e => by
    simp only [runF, Option.some.injEq, Prod.mk.injEq] at e
    obtain ⟨rfl, rfl⟩ := e
    exact ⟨a, g, rfl⟩
  | o :: rest, t, t', h, h', a, g, e => by
    have e : (match wantedS ops o (getS n t) with
      | true => match stepF P xt call yc (getS n t) o h with
        | some (v, h') => match putS n t o.dst v with
          | some t' => runF P xt call yc n ops rest t' h'
          | none => none
        | none => none
      | false => match skipS ops o (getS n t) with
        | true => match putS n t o.dst undef with
          | some t' => runF P xt call yc n ops rest t' h
          | none => none
        | false => none) = some (t', h') := e
    rw [← g.fn, wantedS_eq, skipS_eq] at e
    simp only [runC]
    split at e
    · rename_i hw
      rw [hw]
      simp only
      split at e
      case h_2 => cases e
      rename_i v h₁ hs
      rw [stepF_sim hc hy hs]
      simp only
      split at e
      case h_2 => cases e
      rename_i t₁ ep
      obtain ⟨a₁, ea, g₁⟩ := g.put ep
      rw [ea]
      exact runF_sim hc hy g₁ e
    · rename_i hw
      rw [hw]
      simp only
      split at e
      case h_2 => cases e
      rename_i hk
      rw [hk]
      simp only
      split at e
      case h_2 => cases e
      rename_i t₁ ep
      obtain ⟨a₁, ea, g₁⟩ := g.put ep
      rw [ea]
      exact runF_sim hc hy g₁ e

/-! ### Regions that draw -/
abbrev DnF := List (Nat × Tr Value × Value)
inductive DR (n : Nat) : DnF → Dn → Prop
  | nil : DR n [] []
  | cons {j : Nat} {t : Tr Value} {b : Slots} {v : Value} {x : DnF} {y : Dn} (g : Agr n t b) (h : DR n x y) : DR n ((j, t, v) :: x) ((j, b, v) :: y)
def againF (P : Program) (ops : List Oper) (ms : List Nat) (i : Nat) (h : AW) (n : Nat) (dn : DnF) : Bool :=
  List.rec true (fun x _ ih => match ahead ms i x.1 with
    | true => ih
    | false => match opAt ops x.1 with
      | some p => match opS P (getS n x.2.1) p h with
        | some (.val v _) => match fv v with
          | some v => match readOp P p.op && sameV 20 v x.2.2 with
            | true => ih
            | false => false
          | none => false
        | _ => false
      | none => false) dn
theorem againF_sim {P : Program} {ops : List Oper} {ms : List Nat} {i : Nat} {h : AW} {n : Nat} {x : DnF} {y : Dn} (d : DR n x y) (e : againF P ops ms i h n x = true) : againB P ops ms i h y = true := by
  induction d with
  | nil => rfl
  | @cons j t b v x y g _ ih =>
    have e : (match ahead ms i j with
      | true => againF P ops ms i h n x
      | false => match opAt ops j with
        | some p => match opS P (getS n t) p h with
          | some (.val u _) => match fv u with
            | some u => match readOp P p.op && sameV 20 u v with
              | true => againF P ops ms i h n x
              | false => false
            | none => false
          | _ => false
        | none => false) = true := e
    rw [← g.fn] at e
    simp only [againB]
    split at e
    · rename_i hj
      rw [hj]; exact ih e
    · rename_i hj
      rw [hj]
      simp only
      split at e
      case h_2 => cases e
      rename_i p hp
      rw [hp]
      simp only
      rw [opS_eq] at e
      split at e
      case h_2 => cases e
      rename_i u h' hop
      rw [hop]
      simp only
      split at e
      case h_2 => cases e
      rename_i u' hu
      rw [hu]
      simp only
      split at e
      case h_2 => cases e
      rename_i hb
      rw [hb]
      exact ih e
def stepG (P : Program) (call : CallT) (sl : SL) (o : Oper) (h : AW) : Option (Value × AW) :=
  match opS P sl o h with
  | some (.val v h') => match fv v with
    | some v => some (v, h')
    | none => none
  | some (.call f args) => call f args h
  | none => none
theorem stepG_sim {P : Program} {call call' : CallT} (hc : CallLe call call') {a : Slots} {o : Oper} {h : AW} {r : Value × AW} (e : stepG P call (fun i => a[i]?) o h = some r) : stepB P call' a o h = some r := by
  unfold stepG at e
  unfold stepB
  rw [opS_eq] at e
  split at e
  · rename_i v h' hop
    rw [hop]; exact e
  · rename_i f args hop
    rw [hop]; exact hc f args h r e
  · cases e
def runSF (P : Program) (call : CallT) (n : Nat) (ops : List Oper) (ms : List Nat) (sched : List (Nat × Bool)) : DnF → Tr Value → AW → Option (Tr Value × AW) :=
  List.rec (motive := fun _ => DnF → Tr Value → AW → Option (Tr Value × AW)) (fun _ t h => some (t, h))
    (fun x _ ih dn t h => match opAt ops x.1 with
      | none => none
      | some o => match wantedS ops o (getS n t) with
        | false => match skipS ops o (getS n t) with
          | true => match putS n t o.dst undef with
            | some t' => ih dn t' h
            | none => none
          | false => none
        | true => match x.2 with
          | false => match readOp P o.op with
            | true => match opS P (getS n t) o h with
              | some (.val v _) => match fv v with
                | some v => match putS n t o.dst v with
                  | some t' => ih ((x.1, t, v) :: dn) t' h
                  | none => none
                | none => none
              | _ => none
            | false => none
          | true => match stepG P call (getS n t) o h with
            | some (v, h') => match againF P ops ms x.1 h' n dn with
              | true => match putS n t o.dst v with
                | some t' => ih dn t' h'
                | none => none
              | false => none
            | none => none) sched
theorem runSF_sim {P : Program} {call call' : CallT} (hc : CallLe call call') {n : Nat} {ops : List Oper} {ms : List Nat} : ∀ {sched : List (Nat × Bool)} {x : DnF} {y : Dn} {t t' : Tr Value} {h h' : AW} {a : Slots}, DR n x y → Agr n t a → runSF P call n ops ms sched x t h = some (t', h') → ∃ a', Agr n t' a' ∧ runS P call' ops ms sched y a h = some (a', h')
  | [], x, y, t, t', h, h', a, d, g, e => by
    simp only [runSF, Option.some.injEq, Prod.mk.injEq] at e
    obtain ⟨rfl, rfl⟩ := e
    exact ⟨a, g, rfl⟩
  | (i, wr) :: sched, x, y, t, t', h, h', a, d, g, e => by
    have e : (match opAt ops i with
      | none => none
      | some o => match wantedS ops o (getS n t) with
        | false => match skipS ops o (getS n t) with
          | true => match putS n t o.dst undef with
            | some t' => runSF P call n ops ms sched x t' h
            | none => none
          | false => none
        | true => match (generalizing := false) wr with
          | false => match readOp P o.op with
            | true => match opS P (getS n t) o h with
              | some (.val v _) => match fv v with
                | some v => match putS n t o.dst v with
                  | some t' => runSF P call n ops ms sched ((i, t, v) :: x) t' h
                  | none => none
                | none => none
              | _ => none
            | false => none
          | true => match stepG P call (getS n t) o h with
            | some (v, h') => match againF P ops ms i h' n x with
              | true => match putS n t o.dst v with
                | some t' => runSF P call n ops ms sched x t' h'
                | none => none
              | false => none
            | none => none) = some (t', h') := e
    rw [← g.fn] at e
    simp only [wantedS_eq, skipS_eq] at e
    simp only [runS]
    split at e
    case h_1 => cases e
    rename_i o ho
    rw [ho]
    simp only
    split at e
    · rename_i hw
      rw [hw]
      simp only
      split at e
      case h_2 => cases e
      rename_i hk
      rw [hk]
      simp only
      split at e
      case h_2 => cases e
      rename_i t₁ ep
      obtain ⟨a₁, ea, g₁⟩ := g.put ep
      rw [ea]
      exact runSF_sim hc d g₁ e
    · rename_i hw
      rw [hw]
      simp only
      split at e
      · split at e
        case h_2 => cases e
        rename_i hr
        rw [hr]
        simp only
        rw [opS_eq] at e
        split at e
        case h_2 => cases e
        rename_i v h₁ hop
        rw [hop]
        simp only
        split at e
        case h_2 => cases e
        rename_i v' hf
        rw [hf]
        simp only
        split at e
        case h_2 => cases e
        rename_i t₁ ep
        obtain ⟨a₁, ea, g₁⟩ := g.put ep
        rw [ea]
        exact runSF_sim hc (.cons g d) g₁ e
      · split at e
        case h_2 => cases e
        rename_i v h₁ hs
        rw [stepG_sim hc hs]
        simp only
        split at e
        case h_2 => cases e
        rename_i hag
        rw [againF_sim d hag]
        simp only
        split at e
        case h_2 => cases e
        rename_i t₁ ep
        obtain ⟨a₁, ea, g₁⟩ := g.put ep
        rw [ea]
        exact runSF_sim hc d g₁ e

/-- With calls that tell more. -/
theorem stepB_mono {P : Program} {call call' : CallT} (hc : CallLe call call') {a : Slots} {o : Oper} {h : AW} {r : Value × AW} (e : stepB P call a o h = some r) : stepB P call' a o h = some r := by
  unfold stepB at e ⊢
  split at e
  · rename_i v h' hop
    try rw [hop]
    exact e
  · rename_i f args hop
    try rw [hop]
    exact hc f args h r e
  · cases e
theorem runS_mono {P : Program} {call call' : CallT} (hc : CallLe call call') {ops : List Oper} {ms : List Nat} : ∀ {sched : List (Nat × Bool)} {dn : Dn} {a : Slots} {h : AW} {r : Slots × AW}, runS P call ops ms sched dn a h = some r → runS P call' ops ms sched dn a h = some r
  | [], _, _, _, _, e => e
  | (i, wr) :: sched, dn, a, h, r, e => by
    simp only [runS] at e ⊢
    split at e
    case h_1 => cases e
    rename_i o ho
    try rw [ho]
    try simp only
    split at e
    · rename_i hw
      try rw [hw]
      try simp only
      split at e
      case h_2 => cases e
      rename_i hk
      try rw [hk]
      try simp only
      split at e
      case h_2 => cases e
      rename_i a₁ ep
      try rw [ep]
      exact runS_mono hc e
    · rename_i hw
      try rw [hw]
      try simp only
      split at e
      · split at e
        case h_2 => cases e
        rename_i hr
        try rw [hr]
        try simp only
        split at e
        case h_2 => cases e
        rename_i v h₁ hop
        try rw [hop]
        try simp only
        split at e
        case h_2 => cases e
        rename_i v' hf
        try rw [hf]
        try simp only
        split at e
        case h_2 => cases e
        rename_i a₁ ep
        try rw [ep]
        exact runS_mono hc e
      · split at e
        case h_2 => cases e
        rename_i v h₁ hs
        try rw [stepB_mono hc hs]
        try simp only
        split at e
        case h_2 => cases e
        rename_i hag
        try rw [hag]
        try simp only
        split at e
        case h_2 => cases e
        rename_i a₁ ep
        try rw [ep]
        exact runS_mono hc e
theorem runH_mono {P : Program} {call call' : CallT} (hc : CallLe call call') {ops : List Oper} {ms la : List Nat} {s2 : List (Nat × Bool)} : ∀ {sched : List (Nat × Bool)} {pre : List Nat} {dn : Dn} {a : Slots} {h : AW} {r : Slots × AW}, runH P call ops ms la s2 sched pre dn a h = some r → runH P call' ops ms la s2 sched pre dn a h = some r
  | [], pre, dn, a, h, r, e => by
    simp only [runH] at e ⊢
    split at e
    case h_2 => cases e
    rename_i hcd
    try rw [hcd]
    try simp only
    split at e
    case h_2 => cases e
    rename_i b h₁ hrev
    try rw [hrev]
    try simp only
    split at e
    case h_2 => cases e
    rename_i hag
    try rw [hag]
    exact runS_mono hc e
  | (i, wr) :: sched, pre, dn, a, h, r, e => by
    simp only [runH] at e ⊢
    split at e
    case h_1 => cases e
    rename_i hcd
    try rw [hcd]
    try simp only
    split at e
    case h_1 => cases e
    rename_i o ho
    try rw [ho]
    try simp only
    split at e
    · rename_i hw
      try rw [hw]
      try simp only
      split at e
      case h_2 => cases e
      rename_i hk
      try rw [hk]
      try simp only
      split at e
      case h_2 => cases e
      rename_i a₁ ep
      try rw [ep]
      exact runH_mono hc e
    · rename_i hw
      try rw [hw]
      try simp only
      split at e
      · split at e
        case h_2 => cases e
        rename_i hr
        try rw [hr]
        try simp only
        split at e
        case h_2 => cases e
        rename_i v h₁ hop
        try rw [hop]
        try simp only
        split at e
        case h_2 => cases e
        rename_i v' hf
        try rw [hf]
        try simp only
        split at e
        case h_2 => cases e
        rename_i a₁ ep
        try rw [ep]
        exact runH_mono hc e
      · split at e
        case h_2 => cases e
        rename_i hrem
        try rw [hrem]
        try simp only
        split at e
        case h_2 => cases e
        rename_i v h₁ hs
        try rw [stepB_mono hc hs]
        try simp only
        split at e
        case h_2 => cases e
        rename_i hag
        try rw [hag]
        try simp only
        split at e
        case h_2 => cases e
        rename_i a₁ ep
        try rw [ep]
        exact runH_mono hc e
theorem drawL_mono {P : Program} {call call' : CallT} (hc : CallLe call call') {ops : List Oper} {ms : List Nat} {a : Slots} {h : AW} {r : Slots × AW} (e : drawL P call ops ms a h = some r) : drawL P call' ops ms a h = some r := by
  unfold drawL at e ⊢
  split at e
  case h_2 => cases e
  rename_i la hla
  try rw [hla]
  try simp only
  split at e
  case h_2 => cases e
  rename_i hok
  try rw [hok]
  try simp only
  split at e
  case h_2 => cases e
  rename_i no hno
  try rw [hno]
  try simp only
  split at e
  case h_2 => cases e
  rename_i s1 hs1
  try rw [hs1]
  try simp only
  split at e
  case h_2 => cases e
  rename_i s2 hs2
  try rw [hs2]
  exact runH_mono hc e
def drawF (P : Program) (call : CallT) (n : Nat) (ops : List Oper) (t : Tr Value) (h : AW) : Option (Tr Value × AW) :=
  match masksB ops [] with
  | some ms => match schedB P ms ops ops.length 0 with
    | some sched => match drawOk2 ops ms sched with
      | true => runSF P call n ops ms sched [] t h
      | false => match toL n t with
        | some a => match drawL P call ops ms a h with
          | some (a', h') => match Nat.beq a'.length n, ofL n a' 0 .nil with
            | true, some t' => some (t', h')
            | _, _ => none
          | none => none
        | none => none
    | none => none
  | none => none
theorem drawF_sim {P : Program} {call call' : CallT} (hc : CallLe call call') {n : Nat} {ops : List Oper} {t t' : Tr Value} {h h' : AW} {a : Slots} (g : Agr n t a) (e : drawF P call n ops t h = some (t', h')) : ∃ a', Agr n t' a' ∧ drawD P call' ops a h = some (a', h') := by
  unfold drawF at e
  unfold drawD
  split at e
  case h_2 => cases e
  rename_i ms hm
  rw [hm]
  simp only
  split at e
  case h_2 => cases e
  rename_i sched hs
  rw [hs]
  simp only
  split at e
  · rename_i hok
    rw [hok]
    exact runSF_sim hc .nil g e
  · rename_i hok
    rw [hok]
    simp only
    rw [toL_spec g] at e
    simp only at e
    split at e
    case h_2 => cases e
    rename_i a₁ h₁ hd
    split at e
    case h_2 => cases e
    rename_i t₁ hl ho
    simp only [Option.some.injEq, Prod.mk.injEq] at e
    obtain ⟨rfl, rfl⟩ := e
    exact ⟨a₁, agr_all (of_beq hl) ho, drawL_mono hc hd⟩

/-! ### Code -/
def roundsF (body : Tr Value → AW → Option (AExit × Tr Value × AW)) (fuel : Nat) : Tr Value → AW → Option (AExit × Tr Value × AW) :=
  Nat.rec (motive := fun _ => Tr Value → AW → Option (AExit × Tr Value × AW)) (fun _ _ => none) (fun _ ih t h => match body t h with
    | some (.normal, t', h') => ih t' h'
    | some (.exit id, t', h') => some (.exit id, t', h')
    | some (.ret, t', h') => some (.ret, t', h')
    | none => none) fuel
theorem roundsF_sim {n : Nat} {body : Tr Value → AW → Option (AExit × Tr Value × AW)} {body' : Slots → AW → Option (AExit × Slots × AW)} (hb : ∀ t t' h h' e a, Agr n t a → body t h = some (e, t', h') → ∃ a', Agr n t' a' ∧ body' a h = some (e, a', h')) : ∀ {fuel : Nat} {t t' : Tr Value} {h h' : AW} {e : AExit} {a : Slots}, Agr n t a → roundsF body fuel t h = some (e, t', h') → ∃ a', Agr n t' a' ∧ rounds body' fuel a h = some (e, a', h')
  | 0, t, t', h, h', e, a, g, er => by simp [roundsF] at er
  | fuel + 1, t, t', h, h', e, a, g, er => by
    have er : (match body t h with
      | some (.normal, t', h') => roundsF body fuel t' h'
      | some (.exit id, t', h') => some (.exit id, t', h')
      | some (.ret, t', h') => some (.ret, t', h')
      | none => none) = some (e, t', h') := er
    simp only [rounds]
    split at er
    · rename_i t₁ h₁ hx
      obtain ⟨a₁, g₁, e₁⟩ := hb _ _ _ _ _ _ g hx
      rw [e₁]
      exact roundsF_sim hb g₁ er
    · rename_i id t₁ h₁ hx
      obtain ⟨a₁, g₁, e₁⟩ := hb _ _ _ _ _ _ g hx
      simp only [Option.some.injEq, Prod.mk.injEq] at er
      obtain ⟨rfl, rfl, rfl⟩ := er
      exact ⟨a₁, g₁, by rw [e₁]⟩
    · rename_i t₁ h₁ hx
      obtain ⟨a₁, g₁, e₁⟩ := hb _ _ _ _ _ _ g hx
      simp only [Option.some.injEq, Prod.mk.injEq] at er
      obtain ⟨rfl, rfl, rfl⟩ := er
      exact ⟨a₁, g₁, by rw [e₁]⟩
    · cases er
def codeF (P : Program) (xt : ExtT) (call : CallT) (yc : YieldT) (inR : Bool) (fuel n : Nat) (c : Code) : Tr Value → AW → Option (AExit × Tr Value × AW) :=
  Code.rec (motive := fun _ => Tr Value → AW → Option (AExit × Tr Value × AW))
    (fun t h => some (.normal, t, h))
    (fun _ ops draw t h => match draw with
      | true => match drawF P call n ops.toList t h with
        | some (t', h') => some (.normal, t', h')
        | none => none
      | false => match runF P xt call yc n ops.toList ops.toList t h with
        | some (t', h') => some (.normal, t', h')
        | none => none)
    (fun _ _ ihx ihy t h => match ihx t h with
      | some (.normal, t', h') => ihy t' h'
      | some (.exit id, t', h') => some (.exit id, t', h')
      | some (.ret, t', h') => some (.ret, t', h')
      | none => none)
    (fun c _ _ ihx ihy t h => match aevS (getS n t) c with
      | some (.bool true) => ihx t h
      | some (.bool false) => ihy t h
      | _ => none)
    (fun id _ ih t h => match ih t h with
      | some (.exit id', t', h') => match Nat.beq id' id with
        | true => some (.normal, t', h')
        | false => some (.exit id', t', h')
      | some (.normal, t', h') => some (.normal, t', h')
      | some (.ret, t', h') => some (.ret, t', h')
      | none => none)
    (fun _ ih t h => roundsF ih fuel t h)
    (fun g ps assign body _ _ t h => match inR with
      | true => none
      | false => match aevS (getS n t) g with
        | some (.func (.func f) ⟨[]⟩ ⟨captured⟩) => match toL n t with
          | some a => match h.new (.loop (LP.start a ps.toList assign body)) with
            | some (r, h₁) => match call f (.func (.yield r) #[] #[] :: captured) h₁ with
              | some (_, h₂) => match h₂.get r with
                | some (.loop p) => match busyB p.state, h₂.put r none with
                  | false, some h₃ => match p.pending with
                    | none => some (.normal, t, h₃)
                    | some .ret => some (.ret, t, h₃)
                    | some (.exit id) => some (.exit id, t, h₃)
                    | _ => none
                  | _, _ => none
                | _ => none
              | none => none
            | none => none
          | none => none
        | _ => none)
    (fun id t h => some (.exit id, t, h))
    (fun _ ih t h => ih t h)
    (fun _ t h => some (.normal, t, h))
    (fun _ _ _ => none)
    (fun t h => some (.ret, t, h))
    (fun _ _ _ => none) c
theorem codeF_sim {P : Program} {xt : ExtT} {call call' : CallT} {yc yc' : YieldT} (hc : CallLe call call') (hy : YieldLe yc yc') {inR : Bool} {fuel n : Nat} : ∀ (c : Code) {t t' : Tr Value} {h h' : AW} {e : AExit} {a : Slots}, Agr n t a →
    codeF P xt call yc inR fuel n c t h = some (e, t', h') → ∃ a', Agr n t' a' ∧ codeC P xt call' yc' inR fuel c a h = some (e, a', h') := by
  intro c
  induction c with
  | skip =>
    intro t t' h h' e a g er
    simp only [codeF, Option.some.injEq, Prod.mk.injEq] at er
    obtain ⟨rfl, rfl, rfl⟩ := er
    exact ⟨a, g, rfl⟩
  | region id ops draw =>
    intro t t' h h' e a g er
    have er : (match (generalizing := false) draw with
      | true => match drawF P call n ops.toList t h with
        | some (t', h') => some (AExit.normal, t', h')
        | none => none
      | false => match runF P xt call yc n ops.toList ops.toList t h with
        | some (t', h') => some (AExit.normal, t', h')
        | none => none) = some (e, t', h') := er
    simp only [codeC]
    split at er
    · split at er
      case h_2 => cases er
      rename_i t₁ h₁ hx
      simp only [Option.some.injEq, Prod.mk.injEq] at er
      obtain ⟨rfl, rfl, rfl⟩ := er
      obtain ⟨a₁, g₁, e₁⟩ := drawF_sim hc g hx
      exact ⟨a₁, g₁, by rw [e₁]⟩
    · split at er
      case h_2 => cases er
      rename_i t₁ h₁ hx
      simp only [Option.some.injEq, Prod.mk.injEq] at er
      obtain ⟨rfl, rfl, rfl⟩ := er
      obtain ⟨a₁, g₁, e₁⟩ := runF_sim hc hy g hx
      exact ⟨a₁, g₁, by rw [e₁]⟩
  | seq x y ihx ihy =>
    intro t t' h h' e a g er
    have er : (match codeF P xt call yc inR fuel n x t h with
      | some (.normal, t', h') => codeF P xt call yc inR fuel n y t' h'
      | some (.exit id, t', h') => some (.exit id, t', h')
      | some (.ret, t', h') => some (.ret, t', h')
      | none => none) = some (e, t', h') := er
    simp only [codeC]
    split at er
    · rename_i t₁ h₁ hx
      obtain ⟨a₁, g₁, e₁⟩ := ihx g hx
      rw [e₁]
      exact ihy g₁ er
    · rename_i id t₁ h₁ hx
      obtain ⟨a₁, g₁, e₁⟩ := ihx g hx
      simp only [Option.some.injEq, Prod.mk.injEq] at er
      obtain ⟨rfl, rfl, rfl⟩ := er
      exact ⟨a₁, g₁, by rw [e₁]⟩
    · rename_i t₁ h₁ hx
      obtain ⟨a₁, g₁, e₁⟩ := ihx g hx
      simp only [Option.some.injEq, Prod.mk.injEq] at er
      obtain ⟨rfl, rfl, rfl⟩ := er
      exact ⟨a₁, g₁, by rw [e₁]⟩
    · cases er
  | cond c x y ihx ihy =>
    intro t t' h h' e a g er
    have er : (match aevS (getS n t) c with
      | some (.bool true) => codeF P xt call yc inR fuel n x t h
      | some (.bool false) => codeF P xt call yc inR fuel n y t h
      | _ => none) = some (e, t', h') := er
    rw [← g.fn, aevS_eq] at er
    simp only [codeC]
    split at er
    · rename_i hv
      rw [hv]; exact ihx g er
    · rename_i hv
      rw [hv]; exact ihy g er
    · cases er
  | block id x ih =>
    intro t t' h h' e a g er
    have er : (match codeF P xt call yc inR fuel n x t h with
      | some (.exit id', t', h') => match Nat.beq id' id with
        | true => some (.normal, t', h')
        | false => some (.exit id', t', h')
      | some (.normal, t', h') => some (.normal, t', h')
      | some (.ret, t', h') => some (.ret, t', h')
      | none => none) = some (e, t', h') := er
    simp only [codeC]
    split at er
    · rename_i id' t₁ h₁ hx
      obtain ⟨a₁, g₁, e₁⟩ := ih g hx
      rw [e₁]
      simp only
      split at er
      · rename_i hb
        simp only [Option.some.injEq, Prod.mk.injEq] at er
        obtain ⟨rfl, rfl, rfl⟩ := er
        exact ⟨a₁, g₁, by rw [hb]⟩
      · rename_i hb
        simp only [Option.some.injEq, Prod.mk.injEq] at er
        obtain ⟨rfl, rfl, rfl⟩ := er
        exact ⟨a₁, g₁, by rw [hb]⟩
    · rename_i t₁ h₁ hx
      obtain ⟨a₁, g₁, e₁⟩ := ih g hx
      simp only [Option.some.injEq, Prod.mk.injEq] at er
      obtain ⟨rfl, rfl, rfl⟩ := er
      exact ⟨a₁, g₁, by rw [e₁]⟩
    · rename_i t₁ h₁ hx
      obtain ⟨a₁, g₁, e₁⟩ := ih g hx
      simp only [Option.some.injEq, Prod.mk.injEq] at er
      obtain ⟨rfl, rfl, rfl⟩ := er
      exact ⟨a₁, g₁, by rw [e₁]⟩
    · cases er
  | loop x ih =>
    intro t t' h h' e a g er
    have er : roundsF (codeF P xt call yc inR fuel n x) fuel t h = some (e, t', h') := er
    simp only [codeC]
    exact roundsF_sim (body := codeF P xt call yc inR fuel n x) (body' := codeC P xt call' yc' inR fuel x) (fun _ _ _ _ _ _ g' e' => ih g' e') g er
  | rangeFunc f ps assign body _ _ =>
    intro t t' h h' e a g er
    have er : (match (generalizing := false) inR with
      | true => none
      | false => match aevS (getS n t) f with
        | some (.func (.func f) ⟨[]⟩ ⟨captured⟩) => match toL n t with
          | some a => match h.new (.loop (LP.start a ps.toList assign body)) with
            | some (r, h₁) => match call f (.func (.yield r) #[] #[] :: captured) h₁ with
              | some (_, h₂) => match h₂.get r with
                | some (.loop p) => match busyB p.state, h₂.put r none with
                  | false, some h₃ => match p.pending with
                    | none => some (AExit.normal, t, h₃)
                    | some .ret => some (AExit.ret, t, h₃)
                    | some (.exit id) => some (AExit.exit id, t, h₃)
                    | _ => none
                  | _, _ => none
                | _ => none
              | none => none
            | none => none
          | none => none
        | _ => none) = some (e, t', h') := er
    rw [toL_spec g, ← g.fn, aevS_eq] at er
    simp only [codeC]
    split at er
    case h_1 => cases er
    simp only
    split at er
    case h_2 => cases er
    rename_i f' captured hev
    rw [hev]
    simp only at er ⊢
    split at er
    case h_2 => cases er
    rename_i r h₁ e₁
    rw [e₁]
    simp only
    split at er
    case h_2 => cases er
    rename_i u h₂ hcall
    rw [hc _ _ _ _ hcall]
    simp only
    split at er
    case h_2 => cases er
    rename_i p hgp
    rw [hgp]
    simp only
    split at er
    case h_2 => cases er
    rename_i h₃ hb e₃
    rw [hb, e₃]
    simp only
    split at er
    · rename_i hp
      simp only [Option.some.injEq, Prod.mk.injEq] at er
      obtain ⟨rfl, rfl, rfl⟩ := er
      rw [hp]; exact ⟨a, g, rfl⟩
    · rename_i hp
      simp only [Option.some.injEq, Prod.mk.injEq] at er
      obtain ⟨rfl, rfl, rfl⟩ := er
      rw [hp]; exact ⟨a, g, rfl⟩
    · rename_i id hp
      simp only [Option.some.injEq, Prod.mk.injEq] at er
      obtain ⟨rfl, rfl, rfl⟩ := er
      rw [hp]; exact ⟨a, g, rfl⟩
    · cases er
  | exit id =>
    intro t t' h h' e a g er
    simp only [codeF, Option.some.injEq, Prod.mk.injEq] at er
    obtain ⟨rfl, rfl, rfl⟩ := er
    exact ⟨a, g, rfl⟩
  | scope x ih =>
    intro t t' h h' e a g er
    exact ih g er
  | label l =>
    intro t t' h h' e a g er
    simp only [codeF, Option.some.injEq, Prod.mk.injEq] at er
    obtain ⟨rfl, rfl, rfl⟩ := er
    exact ⟨a, g, rfl⟩
  | ret =>
    intro t t' h h' e a g er
    simp only [codeF, Option.some.injEq, Prod.mk.injEq] at er
    obtain ⟨rfl, rfl, rfl⟩ := er
    exact ⟨a, g, rfl⟩
  | goto l => intro t t' h h' e a g er; simp [codeF] at er
  | refuse w => intro t t' h h' e a g er; simp [codeF] at er

def roundF (code : Nat → Code → Tr Value → AW → Option (AExit × Tr Value × AW)) (r : Nat) (vs : List Value) (h : AW) : Option (Value × AW) :=
  match h.get r with
  | some (.loop p) => match readyB p.state, putAll p.slots p.params vs with
    | true, some a₀ => match fn a₀.length with
      | some n => match ofL n a₀ 0 .nil with
        | some t₀ => match code n p.assign t₀ h with
          | some (.normal, t₁, h₁) => match h₁.get r with
            | some (.loop p₁) => match readyB p₁.state, h₁.put r (some (.loop p₁.busy)) with
              | true, some h₂ => match code n p.body t₁ h₂ with
                | some (e, _, h₃) => match h₃.get r with
                  | some (.loop p₃) => match h₃.put r (some (.loop (p₃.left e))) with
                    | some h₄ => some (.bool e.goesOn, h₄)
                    | none => none
                  | _ => none
                | none => none
              | _, _ => none
            | _ => none
          | _ => none
        | none => none
      | none => none
    | _, _ => none
  | _ => none
theorem roundF_sim {code : Nat → Code → Tr Value → AW → Option (AExit × Tr Value × AW)} {code' : Code → Slots → AW → Option (AExit × Slots × AW)} (hco : ∀ n c (t t' : Tr Value) (h h' : AW) (e : AExit) (a : Slots), Agr n t a → code n c t h = some (e, t', h') → ∃ a', Agr n t' a' ∧ code' c a h = some (e, a', h')) {r : Nat} {vs : List Value} {h : AW} {x : Value × AW} (e : roundF code r vs h = some x) : roundC code' r vs h = some x := by
  unfold roundF at e
  unfold roundC
  split at e
  case h_2 => cases e
  rename_i p hp
  rw [hp]
  simp only
  split at e
  case h_2 => cases e
  rename_i a₀ hst ha
  rw [hst, ha]
  simp only
  split at e
  case h_2 => cases e
  rename_i n hn
  have := fn_eq hn; subst this
  split at e
  case h_2 => cases e
  rename_i t₀ ht
  have g₀ := agr_all rfl ht
  split at e
  case h_2 => cases e
  rename_i t₁ h₁ hass
  obtain ⟨a₁, g₁, e₁⟩ := hco _ _ _ _ _ _ _ _ g₀ hass
  rw [e₁]
  simp only
  split at e
  case h_2 => cases e
  rename_i p₁ hp₁
  rw [hp₁]
  simp only
  split at e
  case h_2 => cases e
  rename_i h₂ hst₁ hput
  rw [hst₁, hput]
  simp only
  split at e
  case h_2 => cases e
  rename_i ex t₃ h₃ hbody
  obtain ⟨a₃, g₃, e₃⟩ := hco _ _ _ _ _ _ _ _ g₁ hbody
  rw [e₃]
  exact e
def resultsS (P : Program) (sl : SL) (h : AW) (rs : List ResultVar) : Option (List Value) :=
  List.rec (some []) (fun x _ ih => match x with
    | .tmp t => match sl t, ih with
      | some v, some vs => some (v :: vs)
      | _, _ => none
    | .cell x t => match sl x with
      | some p => match loadB P t p h, ih with
        | some v, some vs => some (v :: vs)
        | _, _ => none
      | none => none) rs
theorem resultsS_eq {P : Program} {a : Slots} {h : AW} : ∀ rs : List ResultVar, resultsS P (fun i => a[i]?) h rs = resultsB P a h rs
  | [] => rfl
  | .tmp t :: rest => by
    show (match a[t]?, resultsS P (fun i => a[i]?) h rest with
      | some v, some vs => some (v :: vs)
      | _, _ => none) = _
    rw [resultsS_eq rest]; rfl
  | .cell x t :: rest => by
    show (match a[x]? with
      | some p => match loadB P t p h, resultsS P (fun i => a[i]?) h rest with
        | some v, some vs => some (v :: vs)
        | _, _ => none
      | none => none) = _
    rw [resultsS_eq rest]; rfl
def goF (P : Program) (xt : ExtT) (known : Known) (fuel depth : Nat) : Bool → Nat → List Value → AW → Option (Value × AW) :=
  Nat.rec (motive := fun _ => Bool → Nat → List Value → AW → Option (Value × AW)) (fun _ _ _ _ => none) (fun _ ih y f args h => match y with
    | true => roundF (codeF P xt (ih false) (ih true) true fuel) f args h
    | false => match P.funcs[f]? with
      | none => none
      | some fn => match fn.body with
        | none => none
        | some c => match known f args h with
          | some r => some r
          | none => match Nat.ble args.length fn.ntmps, ofL fn.ntmps args 0 .nil with
            | true, some t => match codeF P xt (ih false) (ih true) false fuel fn.ntmps c t h with
              | some (.exit _, _, _) => none
              | some (.normal, t, h') => match resultsS P (getS fn.ntmps t) h' fn.results.toList with
                | some vs => some (tupleB vs, h')
                | none => none
              | some (.ret, t, h') => match resultsS P (getS fn.ntmps t) h' fn.results.toList with
                | some vs => some (tupleB vs, h')
                | none => none
              | none => none
            | _, _ => none) depth
theorem join_some {α : Type} : ∀ (x y : List α), ∃ z, join x y = some z
  | [], y => ⟨y, rfl⟩
  | a :: x, y => by
    obtain ⟨z, e⟩ := join_some x y
    exact ⟨a :: z, by simp only [join, e]⟩
theorem goF_sim {P : Program} {xt : ExtT} {known : Known} {fuel : Nat} : ∀ {depth : Nat} {y : Bool} {f : Nat} {args : List Value} {h : AW} {r : Value × AW}, goF P xt known fuel depth y f args h = some r → goC P xt known fuel depth y f args h = some r
  | 0, y, f, args, h, r, e => by simp [goF] at e
  | depth + 1, true, f, args, h, r, e => by
    have e : roundF (codeF P xt (goF P xt known fuel depth false) (goF P xt known fuel depth true) true fuel) f args h = some r := e
    simp only [goC]
    exact roundF_sim (fun n c _ _ _ _ _ _ g e => codeF_sim (fun _ _ _ _ e => goF_sim e) (fun _ _ _ _ e => goF_sim e) c g e) e
  | depth + 1, false, f, args, h, r, e => by
    have e : (match P.funcs[f]? with
      | none => none
      | some fn => match fn.body with
        | none => none
        | some c => match known f args h with
          | some r => some r
          | none => match Nat.ble args.length fn.ntmps, ofL fn.ntmps args 0 .nil with
            | true, some t => match codeF P xt (goF P xt known fuel depth false) (goF P xt known fuel depth true) false fuel fn.ntmps c t h with
              | some (.exit _, _, _) => none
              | some (.normal, t, h') => match resultsS P (getS fn.ntmps t) h' fn.results.toList with
                | some vs => some (tupleB vs, h')
                | none => none
              | some (.ret, t, h') => match resultsS P (getS fn.ntmps t) h' fn.results.toList with
                | some vs => some (tupleB vs, h')
                | none => none
              | none => none
            | _, _ => none) = some r := e
    simp only [goC]
    split at e
    case h_1 => cases e
    rename_i fn hf
    rw [hf]
    simp only
    split at e
    case h_1 => cases e
    rename_i c hb
    rw [hb]
    simp only
    split at e
    · rename_i r' hk
      rw [hk]; exact e
    · rename_i hk
      rw [hk]
      simp only
      split at e
      case h_2 => cases e
      rename_i t hl ht
      obtain ⟨a, ha⟩ := join_some args (undefs (fn.ntmps - args.length))
      rw [ha]
      simp only
      have g := agr_args (of_ble hl) ht ha
      have key : ∀ {e' t' h'}, codeF P xt (goF P xt known fuel depth false) (goF P xt known fuel depth true) false fuel fn.ntmps c t h = some (e', t', h') → ∃ a', Agr fn.ntmps t' a' ∧ codeC P xt (goC P xt known fuel depth false) (goC P xt known fuel depth true) false fuel c a h = some (e', a', h') := fun e => codeF_sim (fun _ _ _ _ e => goF_sim e) (fun _ _ _ _ e => goF_sim e) c g e
      split at e
      · cases e
      · rename_i t₁ h₁ hcode
        obtain ⟨a₁, g₁, e₁⟩ := key hcode
        rw [e₁]
        simp only
        rw [← g₁.fn, resultsS_eq] at e
        exact e
      · rename_i t₁ h₁ hcode
        obtain ⟨a₁, g₁, e₁⟩ := key hcode
        rw [e₁]
        simp only
        rw [← g₁.fn, resultsS_eq] at e
        exact e
      · cases e

section
variable {P : Program}
def saysF (P : Program) (xt : ExtT) (known : Known) (fuel depth : Nat) (f : FuncId) : Bool :=
  match goF P xt known fuel depth false f [] AW.empty with
  | some (.bool b, _) => b
  | _ => false
theorem CS.saysF (hg : noGo P = true) (hmix : P.follows .mixedOrders = true) {xt : ExtT} {known : Known} (hx : XSd P xt) (hk : SQ P known) {fuel depth : Nat} {f : FuncId} {L : RL} (e : saysF P xt known fuel depth f = true) : CS P f [] L fun v L' => v = .bool true ∧ L' = L := by
  refine CS.saysC hg hmix hx hk (fuel := fuel) (depth := depth) ?_
  unfold Am.saysF at e
  unfold Am.saysC
  split at e
  · rename_i b h' hcall
    rw [goF_sim hcall]
    exact e
  · cases e
end
end
end Go.Am
