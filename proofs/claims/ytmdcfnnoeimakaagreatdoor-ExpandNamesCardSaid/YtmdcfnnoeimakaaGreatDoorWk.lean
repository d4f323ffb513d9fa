/- Many steps at once: W n goes n steps that need no choice; V n besides opens what stands in a row behind them. And the steps with less to say. -/
import Derived.Test.YtmdcfnnoeimakaaGreatDoorAmZ
import Derived.Test.YtmdcfnnoeimakaaGreatDoorAmK
import Derived.Test.YtmdcfnnoeimakaaGreatDoorAmR
import Derived.Test.YtmdcfnnoeimakaaGreatDoorChecked
open Go.Proofs
namespace Go.Am
theorem wkNoGo : noGo Tryz.prog = true := by kernel_rfl
theorem yH {α β : Type} {f : α → β} : ∀ x, f x = f x := fun _ => rfl
def Bx (p : Prop) : Prop := p
structure St (n : Nat) (p q : Prop) : Prop where
  h : p → q
theorem St.z {p : Prop} : St 0 (Bx p) p := ⟨id⟩
theorem St.s {n : Nat} {p q r : Prop} (a : r → q) (b : St n p r) : St (n + 1) p q := ⟨fun h => a (b.h h)⟩
theorem St.q {n : Nat} {p q r : Prop} (a : r → q) (b : St n p r) : St n p q := ⟨fun h => a (b.h h)⟩
theorem yX (n : Nat) {p q : Prop} (k : p) (h : St n (Bx p) q := by
  repeat (first
    | exact .z
    | refine .s (OS.pure rfl (fun _ => rfl) rfl) ?_
    | refine .s OS.nil ?_
    | refine .s (OS.skip rfl rfl) ?_
    | refine .q LS.seq ?_
    | refine .s (LS.region rfl) ?_
    | refine .s (fun k => ⟨_, rfl, k⟩) ?_
    | refine .s (fun k => LS.cond rfl (fun h => (Bool.false_ne_true h).elim) (fun _ => k)) ?_
    | refine .s (fun k => LS.cond rfl (fun _ => k) (fun h => (Bool.false_ne_true h.symm).elim)) ?_
    | refine .s (OS.read rfl (e_load 0 rfl rfl rfl rfl rfl) rfl) ?_
    | refine .s (OS.read rfl (e_load 1 rfl rfl rfl rfl rfl) rfl) ?_
    | refine .s (OS.read rfl (e_load 2 rfl rfl rfl rfl rfl) rfl) ?_
    | refine .s (OS.read rfl (e_load 3 rfl rfl rfl rfl rfl) rfl) ?_
    | refine .s (OS.read rfl (e_load 4 rfl rfl rfl rfl rfl) rfl) ?_
    | refine .s (OS.read rfl (e_load 5 rfl rfl rfl rfl rfl) rfl) ?_
    | refine .s (OS.read rfl (e_load 6 rfl rfl rfl rfl rfl) rfl) ?_
    | refine .s (OS.read rfl (e_load 7 rfl rfl rfl rfl rfl) rfl) ?_
    | refine .s (OS.write rfl (e_store 0 rfl rfl rfl rfl rfl rfl rfl rfl) rfl) ?_
    | refine .s (OS.write rfl (e_store 1 rfl rfl rfl rfl rfl rfl rfl rfl) rfl) ?_
    | refine .s (OS.write rfl (e_store 2 rfl rfl rfl rfl rfl rfl rfl rfl) rfl) ?_
    | refine .s (OS.write rfl (e_store 3 rfl rfl rfl rfl rfl rfl rfl rfl) rfl) ?_
    | refine .s (ODS.pure rfl rfl (fun _ => rfl) rfl) ?_
    | refine .s (ODS.skip rfl rfl rfl) ?_
    | refine .s ODS.nil ?_
    | refine .s LS.skip ?_
    | refine .s LS.block ?_
    | refine .s (fun k => LS.ret ⟨_, fun _ _ => rfl, k⟩) ?_
    | refine .s (ODS.read rfl rfl (e_load 0 rfl rfl rfl rfl rfl) rfl) ?_
    | refine .s (ODS.read rfl rfl (e_load 1 rfl rfl rfl rfl rfl) rfl) ?_
    | refine .s (ODS.read rfl rfl (e_load 2 rfl rfl rfl rfl rfl) rfl) ?_
    | refine .s (ODS.read rfl rfl (e_load 3 rfl rfl rfl rfl rfl) rfl) ?_
    | refine .s (ODS.read rfl rfl (e_load 4 rfl rfl rfl rfl rfl) rfl) ?_
    | refine .s (ODS.read rfl rfl (e_load 5 rfl rfl rfl rfl rfl) rfl) ?_)) : q := h.h k
theorem yV (n : Nat) {p q : Prop} (k : p) (h : St n (Bx p) q := by
  repeat (first
    | refine .q LS.seq ?_
    | exact .z
    | refine .s (OS.pure rfl (fun _ => rfl) rfl) ?_
    | refine .s OS.nil ?_
    | refine .s (OS.skip rfl rfl) ?_
    | refine .s (LS.region rfl) ?_
    | refine .s (fun k => ⟨_, rfl, k⟩) ?_
    | refine .s (fun k => LS.cond rfl (fun h => (Bool.false_ne_true h).elim) (fun _ => k)) ?_
    | refine .s (fun k => LS.cond rfl (fun _ => k) (fun h => (Bool.false_ne_true h.symm).elim)) ?_
    | refine .s (OS.read rfl (e_load 0 rfl rfl rfl rfl rfl) rfl) ?_
    | refine .s (OS.read rfl (e_load 1 rfl rfl rfl rfl rfl) rfl) ?_
    | refine .s (OS.read rfl (e_load 2 rfl rfl rfl rfl rfl) rfl) ?_
    | refine .s (OS.read rfl (e_load 3 rfl rfl rfl rfl rfl) rfl) ?_
    | refine .s (OS.read rfl (e_load 4 rfl rfl rfl rfl rfl) rfl) ?_
    | refine .s (OS.read rfl (e_load 5 rfl rfl rfl rfl rfl) rfl) ?_
    | refine .s (OS.read rfl (e_load 6 rfl rfl rfl rfl rfl) rfl) ?_
    | refine .s (OS.read rfl (e_load 7 rfl rfl rfl rfl rfl) rfl) ?_
    | refine .s (OS.write rfl (e_store 0 rfl rfl rfl rfl rfl rfl rfl rfl) rfl) ?_
    | refine .s (OS.write rfl (e_store 1 rfl rfl rfl rfl rfl rfl rfl rfl) rfl) ?_
    | refine .s (OS.write rfl (e_store 2 rfl rfl rfl rfl rfl rfl rfl rfl) rfl) ?_
    | refine .s (OS.write rfl (e_store 3 rfl rfl rfl rfl rfl rfl rfl rfl) rfl) ?_
    | refine .s (ODS.pure rfl rfl (fun _ => rfl) rfl) ?_
    | refine .s (ODS.skip rfl rfl rfl) ?_
    | refine .s ODS.nil ?_
    | refine .s LS.skip ?_
    | refine .s LS.block ?_
    | refine .s (fun k => LS.ret ⟨_, fun _ _ => rfl, k⟩) ?_
    | refine .s (ODS.read rfl rfl (e_load 0 rfl rfl rfl rfl rfl) rfl) ?_
    | refine .s (ODS.read rfl rfl (e_load 1 rfl rfl rfl rfl rfl) rfl) ?_
    | refine .s (ODS.read rfl rfl (e_load 2 rfl rfl rfl rfl rfl) rfl) ?_
    | refine .s (ODS.read rfl rfl (e_load 3 rfl rfl rfl rfl rfl) rfl) ?_
    | refine .s (ODS.read rfl rfl (e_load 4 rfl rfl rfl rfl rfl) rfl) ?_
    | refine .s (ODS.read rfl rfl (e_load 5 rfl rfl rfl rfl rfl) rfl) ?_)) : q := h.h k
section
variable {P : Program} {ops rest : List Oper} {o : Oper} {a a₁ : Slots} {L L₁ : RL} {v : Value} {K : Slots → RL → Prop} {ms : List Nat} {i : Nat} {sched : List (Nat × Bool)} {dn : List (Nat × Slots × Value)}
theorem yP (e : ∀ h, opB P a o h = some (.val v h)) (k : OS P ops rest a₁ L K) (hw : wantedB ops o a = true := by rfl) (ep : putAt a o.dst v = some a₁ := by rfl) : OS P ops (o :: rest) a L K := OS.pure hw e ep k
theorem yI {b b' : Bool} (hb : b = b') (k : OS P ops rest a₁ L K) (e : ∀ h, opB P a o h = some (.val (.bool b) h) := by intro _; rfl) (hw : wantedB ops o a = true := by rfl) (ep : putAt a o.dst (.bool b') = some a₁ := by rfl) : OS P ops (o :: rest) a L K := OS.pure hw (hb ▸ e) ep k
theorem yR (e : ∀ h, Has h L → opB P a o h = some (.val v h)) (k : OS P ops rest a₁ L K) (hw : wantedB ops o a = true := by rfl) (ep : putAt a o.dst v = some a₁ := by rfl) : OS P ops (o :: rest) a L K := OS.read hw e ep k
theorem yL {t : TypeId} {x : Operand} {r off : Nat} {row : ARow} {cs : List Value} (hm : (r, row) ∈ L) (k : OS P ops rest a₁ L K) (hc : rdRow row = some cs := by rfl) (ho : o.op = .load t x := by rfl) (hx : aev a x = some (.pointer (some ⟨r, off, none⟩)) := by rfl) (ht : isAggB P t = some false := by rfl) (hv : cs[off]? = some v := by rfl) (hw : wantedB ops o a = true := by rfl) (ep : putAt a o.dst v = some a₁ := by rfl) : OS P ops (o :: rest) a L K := OS.read hw (e_loadm hm hc ho hx (part_one ht hv)) ep k
theorem yW (e : ∀ h, Has h L → ∃ h₁, opB P a o h = some (.val v h₁) ∧ Has h₁ L₁) (k : OS P ops rest a₁ L₁ K) (hw : wantedB ops o a = true := by rfl) (ep : putAt a o.dst v = some a₁ := by rfl) : OS P ops (o :: rest) a L K := OS.write hw e ep k
theorem yM {V : Nat → Value} {A : Nat → Slots} {M : Nat → RL} (e : ∀ h, Has h L → ∃ r h₁, opB P a o h = some (.val (V r) h₁) ∧ Has h₁ (M r)) (k : ∀ r, OS P ops rest (A r) (M r) K) (hw : wantedB ops o a = true := by rfl) (ep : ∀ r, putAt a o.dst (V r) = some (A r) := by intro _; rfl) : OS P ops (o :: rest) a L K := OS.fresh hw e ep k
theorem yN {el : TypeId} {cs : List Value} {mk : Nat → Value} {A : Nat → Slots} (k : ∀ r, OS P ops rest (A r) ((r, .cells el cs) :: L) K) (e : ∀ h, opB P a o h = retRow (newCells P h el cs) mk := by intro _; rfl) (hs : (sizeB P el).isSome = true := by rfl) (hw : wantedB ops o a = true := by rfl) (ep : ∀ r, putAt a o.dst (mk r) = some (A r) := by intro _; rfl) : OS P ops (o :: rest) a L K := OS.fresh hw (e_new e hs) ep k
theorem yA {f : FuncId} {args : List Value} {R : Value → RL → Prop} (e : ∀ h, opB Tryz.prog a o h = some (.call f args)) (c : CS Tryz.prog f args L R) (k : ∀ v L₁, R v L₁ → ∃ a₁, putAt a o.dst v = some a₁ ∧ OS Tryz.prog ops rest a₁ L₁ K) (hw : wantedB ops o a = true := by rfl) : OS Tryz.prog ops (o :: rest) a L K := OS.call wkNoGo hw e (c.mono k)
theorem yF (fn : Func) {f : FuncId} {args : List Value} {c : Code} {rs : List ResultVar} {R : Value → RL → Prop} (hl : LS P c a L (ToldS P rs R)) (hf : P.funcs[f]? = some fn := by rfl) (hb : fn.body = some c := by rfl) (hrs : fn.results.toList = rs := by rfl) (ha : join args (undefs (fn.ntmps - args.length)) = some a := by rfl) : CS P f args L R := CS.mk hf hb hrs ha hl
theorem yQ (hi : ops[i]? = some o) (e : ∀ h, opB P a o h = some (.val v h)) (k : ODS P ops ms K sched dn a₁ L) (hw : wantedB ops o a = true := by rfl) (ep : putAt a o.dst v = some a₁ := by rfl) : ODS P ops ms K ((i, false) :: sched) dn a L := ODS.pure hi hw e ep k
theorem yO {f : FuncId} {args : List Value} {R : Value → RL → Prop} (hi : ops[i]? = some o) (e : ∀ h, opB P a o h = some (.call f args)) (c : CS P f args L R) (k : ∀ v L₁, R v L₁ → ∃ a₁, putAt a o.dst v = some a₁ ∧ Keep P ops ms i dn L₁ ∧ ODS P ops ms K sched dn a₁ L₁) (hw : wantedB ops o a = true := by rfl) : ODS P ops ms K ((i, true) :: sched) dn a L := ODS.call hi hw e (c.mono k)
end
end Go.Am
