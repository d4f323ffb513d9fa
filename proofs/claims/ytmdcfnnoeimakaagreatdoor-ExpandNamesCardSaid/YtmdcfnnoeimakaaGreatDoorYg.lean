/- As many steps as need no choice: yG. -/
import Derived.Test.YtmdcfnnoeimakaaGreatDoorWk
import Derived.Test.YtmdcfnnoeimakaaGreatDoorIf
namespace Go.Am
set_option linter.unusedVariables false
theorem tf (b : Bool) : b = true ∨ b = false := by cases b <;> simp
/-- Operations whose answer is as plain as it comes. -/
def easyB : Op → Bool
  | .move _ | .assign _ | .pick _ _ _ | .unOp _ _ _ | .fieldAddr _ _ _ | .field _ _ _ | .makeFunc _ _ _ | .nilCheck _ | .extract _ _ | .build _ _ | .makeInterface _ _ => true
  | .binOp b _ _ _ _ => match b with
    | .eql | .neq | .lss | .leq | .gtr | .geq => true
    | _ => false
  | .call c => match c.callee with
    | .builtin .len => true
    | _ => false
  | _ => false
def cmpB : Op → Bool
  | .binOp b _ _ _ _ => match b with
    | .eql | .neq | .lss | .leq | .gtr | .geq => true
    | _ => false
  | _ => false
structure Sx (p q : Prop) : Prop where
  h : p → q
theorem Sx.z {p : Prop} : Sx (Bx p) p := ⟨id⟩
theorem Sx.s {p q r : Prop} (a : r → q) (b : Sx p r) : Sx p q := ⟨fun h => a (b.h h)⟩
section
variable {P : Program} {a a₁ : Slots} {o : Oper} {L L₁ : RL} {t z : TypeId} {x y : Operand} {k : IntKind} {ops rest : List Oper} {v : Value} {K : Slots → RL → Prop}
theorem OS.ease (he : easyB o.op = true) (hw : wantedB ops o a = true) (e : ∀ h, opB P a o h = some (.val v h)) (ep : putAt a o.dst v = some a₁) (k : OS P ops rest a₁ L K) : OS P ops (o :: rest) a L K := OS.pure hw e ep k
theorem OS.easeB {b b' : Bool} (he : cmpB o.op = true) (hw : wantedB ops o a = true) (e : ∀ h, opB P a o h = some (.val (.bool b) h)) (hb : b = b') (ep : putAt a o.dst (.bool b') = some a₁) (k : OS P ops rest a₁ L K) : OS P ops (o :: rest) a L K := OS.pure hw (hb ▸ e) ep k
theorem ODS.ease {ms : List Nat} {i : Nat} {sched : List (Nat × Bool)} {dn : Dn} (hi : ops[i]? = some o) (he : easyB o.op = true) (hw : wantedB ops o a = true) (e : ∀ h, opB P a o h = some (.val v h)) (ep : putAt a o.dst v = some a₁) (k : ODS P ops ms K sched dn a₁ L) : ODS P ops ms K ((i, false) :: sched) dn a L := ODS.pure hi hw e ep k
theorem ODS.easeB {ms : List Nat} {i : Nat} {sched : List (Nat × Bool)} {dn : Dn} {b b' : Bool} (hi : ops[i]? = some o) (he : cmpB o.op = true) (hw : wantedB ops o a = true) (e : ∀ h, opB P a o h = some (.val (.bool b) h)) (hb : b = b') (ep : putAt a o.dst (.bool b') = some a₁) (k : ODS P ops ms K sched dn a₁ L) : ODS P ops ms K ((i, false) :: sched) dn a L := ODS.pure hi hw (hb ▸ e) ep k
theorem y_addN {m n : Nat} (ho : o.op = .binOp .add t x y z) (hx : aev a x = some (.int k (m : Int))) (hy : aev a y = some (.int k (n : Int))) (hi : inK k ((m + n : Nat) : Int) = true) : ∀ h, opB P a o h = some (.val (.int k ((m + n : Nat) : Int)) h) := by
  have he : ((m + n : Nat) : Int) = (m : Int) + n := by omega
  have := e_add (P := P) ho hx hy (by rw [← he]; exact hi)
  rw [he]; exact this
theorem y_subN {m n : Nat} (ho : o.op = .binOp .sub t x y z) (hx : aev a x = some (.int k (m : Int))) (hy : aev a y = some (.int k (n : Int))) (hle : n ≤ m) (hi : inK k ((m - n : Nat) : Int) = true) : ∀ h, opB P a o h = some (.val (.int k ((m - n : Nat) : Int)) h) := by
  have he : ((m - n : Nat) : Int) = (m : Int) - n := by omega
  have := e_sub (P := P) ho hx hy (by rw [← he]; exact hi)
  rw [he]; exact this
theorem e_lenS {c : Call} {s : List UInt8} (ho : o.op = .call c) (hc : c.callee = .builtin .len) (ha : evs a c.args.toList = some [.string ⟨⟨s⟩⟩]) (e : ∀ h, opB P a o h = some (.val (.int .i64 ((⟨⟨s⟩⟩ : ByteArray).data.toList.length : Nat)) h)) : ∀ h, opB P a o h = some (.val (.int .i64 (s.length : Nat)) h) := e
/-- A call that leaves the rows as they are. -/
theorem OS.callS {f : FuncId} {args : List Value} (hg : noGo P = true) (hw : wantedB ops o a = true) (e : ∀ h, opB P a o h = some (.call f args)) (hc : CS P f args L fun u L' => u = v ∧ L' = L) (ep : putAt a o.dst v = some a₁) (k : OS P ops rest a₁ L K) : OS P ops (o :: rest) a L K :=
  OS.call hg hw e (hc.mono fun u L' ⟨h1, h2⟩ => by subst h1; subst h2; exact ⟨a₁, ep, k⟩)
theorem OS.gd (f : Op → Bool) (he : f o.op = true) (k : OS P ops (o :: rest) a L K) : OS P ops (o :: rest) a L K := k
theorem ODS.gd (f : Op → Bool) {ms : List Nat} {i : Nat} {w : Bool} {sched : List (Nat × Bool)} {dn : Dn} (hi : ops[i]? = some o) (he : f o.op = true) (k : ODS P ops ms K ((i, w) :: sched) dn a L) : ODS P ops ms K ((i, w) :: sched) dn a L := k
end
def gLen : Op → Bool
  | .call c => match c.callee with
    | .builtin .len => true
    | _ => false
  | _ => false
def gLoad : Op → Bool
  | .load _ _ => true
  | _ => false
def gStore : Op → Bool
  | .store _ _ _ => true
  | _ => false
def gIdx : Op → Bool
  | .index _ _ _ => true
  | _ => false
def gAss : Op → Bool
  | .typeAssert _ _ _ _ => true
  | _ => false
def gAdd : Op → Bool
  | .binOp b _ _ _ _ => match b with
    | .add | .sub => true
    | _ => false
  | _ => false
theorem yG {p q : Prop} (k : p) (h : Sx (Bx p) q := by
  repeat (first
    | refine .s LS.seq ?_
    | refine .s (LS.region rfl) ?_
    | refine .s OS.nil ?_
    | (refine .s (OS.gd gLen rfl) ?_
       first
       | refine .s (OS.pure rfl (e_lenS rfl rfl rfl fun _ => rfl) rfl) ?_
       | refine .s (OS.pure rfl (e_len (by with_reducible assumption) rfl rfl rfl rfl rfl) rfl) ?_)
    | refine .s (OS.easeB rfl rfl (fun _ => rfl) (by with_reducible assumption) rfl) ?_
    | refine .s (OS.ease rfl rfl (fun _ => rfl) rfl) ?_
    | refine .s (OS.skip rfl rfl) ?_
    | (refine .s (OS.gd gAdd rfl) ?_
       first
       | refine .s (OS.pure rfl (y_addN (n := 1) rfl rfl rfl (in_i64 (by omega) (by omega))) rfl) ?_
       | refine .s (OS.pure rfl (y_addN rfl rfl rfl (in_i64 (by omega) (by omega))) rfl) ?_
       | refine .s (OS.pure rfl (y_subN (n := 1) rfl rfl rfl (by omega) (in_i64 (by omega) (by omega))) rfl) ?_)
    | (refine .s (OS.gd gIdx rfl) ?_
       refine .s (OS.pure rfl (e_byte rfl rfl rfl rfl (by with_reducible assumption)) rfl) ?_)
    | (refine .s (OS.gd gAss rfl) ?_
       refine .s (OS.assert rfl rfl rfl rfl rfl) ?_)
    | (refine .s (OS.gd gLoad rfl) ?_
       first
       | refine .s (OS.read rfl (e_load 0 rfl rfl rfl rfl rfl) rfl) ?_
       | refine .s (OS.read rfl (e_load 1 rfl rfl rfl rfl rfl) rfl) ?_
       | refine .s (OS.read rfl (e_load 2 rfl rfl rfl rfl rfl) rfl) ?_
       | refine .s (OS.read rfl (e_load 3 rfl rfl rfl rfl rfl) rfl) ?_
       | refine .s (OS.read rfl (e_load 4 rfl rfl rfl rfl rfl) rfl) ?_
       | refine .s (OS.read rfl (e_load 5 rfl rfl rfl rfl rfl) rfl) ?_
       | refine .s (OS.read rfl (e_load 6 rfl rfl rfl rfl rfl) rfl) ?_
       | refine .s (OS.read rfl (e_load 7 rfl rfl rfl rfl rfl) rfl) ?_)
    | (refine .s (OS.gd gStore rfl) ?_
       first
       | refine .s (OS.write rfl (e_store 0 rfl rfl rfl rfl rfl rfl rfl rfl) rfl) ?_
       | refine .s (OS.write rfl (e_store 1 rfl rfl rfl rfl rfl rfl rfl rfl) rfl) ?_
       | refine .s (OS.write rfl (e_store 2 rfl rfl rfl rfl rfl rfl rfl rfl) rfl) ?_
       | refine .s (OS.write rfl (e_store 3 rfl rfl rfl rfl rfl rfl rfl rfl) rfl) ?_)
    | refine .s (fun k => ⟨_, rfl, k⟩) ?_
    | refine .s (fun k => LS.cond rfl (fun h => (Bool.false_ne_true h).elim) (fun _ => k)) ?_
    | refine .s (fun k => LS.cond rfl (fun _ => k) (fun h => (Bool.false_ne_true h.symm).elim)) ?_
    | refine .s LS.skip ?_
    | refine .s LS.block ?_
    | refine .s (fun k => LS.ret ⟨_, fun _ _ => rfl, k⟩) ?_
    | refine .s ODS.nil ?_
    | (refine .s (ODS.gd gLen rfl rfl) ?_
       first
       | refine .s (ODS.pure rfl rfl (e_lenS rfl rfl rfl fun _ => rfl) rfl) ?_
       | refine .s (ODS.pure rfl rfl (e_len (by with_reducible assumption) rfl rfl rfl rfl rfl) rfl) ?_)
    | refine .s (ODS.easeB rfl rfl rfl (fun _ => rfl) (by with_reducible assumption) rfl) ?_
    | refine .s (ODS.ease rfl rfl rfl (fun _ => rfl) rfl) ?_
    | refine .s (ODS.skip rfl rfl rfl) ?_
    | (refine .s (ODS.gd gIdx rfl rfl) ?_
       refine .s (ODS.pure rfl rfl (e_byte rfl rfl rfl rfl (by with_reducible assumption)) rfl) ?_)
    | (refine .s (ODS.gd gAdd rfl rfl) ?_
       first
       | refine .s (ODS.pure rfl rfl (y_addN (n := 1) rfl rfl rfl (in_i64 (by omega) (by omega))) rfl) ?_
       | refine .s (ODS.pure rfl rfl (y_addN rfl rfl rfl (in_i64 (by omega) (by omega))) rfl) ?_
       | refine .s (ODS.pure rfl rfl (y_subN (n := 1) rfl rfl rfl (by omega) (in_i64 (by omega) (by omega))) rfl) ?_)
    | (refine .s (ODS.gd gLoad rfl rfl) ?_
       first
       | refine .s (ODS.read rfl rfl (e_load 0 rfl rfl rfl rfl rfl) rfl) ?_
       | refine .s (ODS.read rfl rfl (e_load 1 rfl rfl rfl rfl rfl) rfl) ?_
       | refine .s (ODS.read rfl rfl (e_load 2 rfl rfl rfl rfl rfl) rfl) ?_
       | refine .s (ODS.read rfl rfl (e_load 3 rfl rfl rfl rfl rfl) rfl) ?_
       | refine .s (ODS.read rfl rfl (e_load 4 rfl rfl rfl rfl rfl) rfl) ?_
       | refine .s (ODS.read rfl rfl (e_load 5 rfl rfl rfl rfl rfl) rfl) ?_))
  exact .z) : q := h.h k
end Go.Am
