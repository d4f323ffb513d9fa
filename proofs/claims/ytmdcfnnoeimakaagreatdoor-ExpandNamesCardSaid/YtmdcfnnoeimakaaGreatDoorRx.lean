/- Functions that the model stands in for and that turn rows; methods of interface values; package variables that are pinned to their place. -/
import Derived.Test.YtmdcfnnoeimakaaGreatDoorIf
import Derived.Below
namespace Go.Am
set_option linter.unusedVariables false
section
variable {P : Program} {ops rest : List Oper} {o : Oper} {a a₁ : Slots} {h : AW} {v : Value} {L L₁ : RL}
/-- An operation that comes to a call of this function, with these arguments. -/
def RES (P : Program) (a : Slots) (o : Oper) (h : AW) (f : FuncId) (args : List Value) : Prop :=
  (∀ c, o.op ≠ .defer c) ∧ ∀ (ρ : Env) (act : Act) (w : World), LRel ρ a act.tmps.toList → HRel P ρ h w → ∃ us : List Value, LRel ρ args us ∧ (execOp act.eval o).run P w = (callFunc f ⟨us⟩).run P w
theorem RES.of {f : FuncId} {args : List Value} (e : opB P a o h = some (.call f args)) : RES P a o h f args :=
  ⟨opB_noDefer e, fun ρ act w hr H => opB_sound hr H e⟩
theorem RES.inv {c : Call} {r : Operand} {m : String} {t : TypeId} {x y : Value} {vs : List Value} {f : FuncId} (ho : o.op = .call c) (hc : c.callee = .invoke r m) (hr : aev a r = some (.iface t x)) (ha : evs a c.args.toList = some vs)
    (hm : ∀ (ρ : Env) (u : Value) (w : World), VRel ρ x u → ∃ z, (method (P.types.size + Made.depth) t u m).run P w = .ok (f, z) w ∧ VRel ρ y z) : RES P a o h f (y :: vs) := by
  refine ⟨fun c' hc' => (by rw [ho] at hc'; cases hc'), fun ρ act w hs H => ?_⟩
  have hargs : LRel ρ vs (c.args.toList.map act.eval) := evs_rel hs ha
  have hrr := aev_rel hs hr
  generalize hev : act.eval r = rv at hrr
  cases hrr with
  | iface hx =>
    rename_i u
    obtain ⟨z, hz, hyz⟩ := hm ρ u w hx
    refine ⟨z :: c.args.toList.map act.eval, .cons hyz hargs, ?_⟩
    have hmap : c.args.map act.eval = ⟨c.args.toList.map act.eval⟩ := by apply Array.ext'; simp
    have hex : execOp act.eval o = (do let d ← resolve act.eval c o.type; invoke d.target d.args) := by simp only [execOp, ho]
    rw [hex]
    simp only [resolve, hc, hev, hmap, Sem.run_bind, Sem.run_pure, Result.andThen_ok, invoke]
    have h0 : ((#[Value.iface t u] ++ (⟨c.args.toList.map act.eval⟩ : Array Value)) : Array Value)[0]? = some (.iface t u) := by simp
    have h1 : (#[Value.iface t u] ++ (⟨c.args.toList.map act.eval⟩ : Array Value)).extract 1 (#[Value.iface t u] ++ (⟨c.args.toList.map act.eval⟩ : Array Value)).size = ⟨c.args.toList.map act.eval⟩ := by
      apply Array.ext'; simp [List.take_of_length_le]
    simp only [h0, h1, callMethod, Sem.run_bind, run_program, hz, Result.andThen_ok]
    congr 2
    apply Array.ext'; simp
theorem OQ.resC (hg : noGo P = true) {K : Slots → AW → Prop} {f : FuncId} {args : List Value} (hw : wantedB ops o a = true) (e : RES P a o h f args) (hc : CQ P f args h fun v h₁ => ∃ a₁, putAt a o.dst v = some a₁ ∧ OQ P ops rest a₁ h₁ K) :
    OQ P ops (o :: rest) a h K := by
  intro ro ds opsA i ρ act w Q ho hd hr hdf H hQ
  obtain ⟨hoi, hrest⟩ := drop_at ho hd
  simp only [List.length_cons, List.range'_succ, wpOpsIn, hoi]
  rw [← wantedB_eq hr (by rw [ho]; exact sure_of_wanted hw), ho, hw, if_pos rfl]
  obtain ⟨us, hus, hrun⟩ := e.2 ρ act w hr H
  obtain ⟨⟨fn, c, hf, hb⟩, hcalls⟩ := hc
  refine ⟨fun _ _ => trivial, ?_⟩
  rw [Oper.semAt_eq _ _ _ e.1, hrun, run_callFunc hg hf hb]
  refine ⟨fun hh => (by cases hh), callsIn_at.2 ((hcalls ρ us w hus H).mono ?_)⟩
  rintro en w₁ ⟨v, h₁, u, ρ₁, rfl, ⟨a₁, ep, k⟩, hv, H₁, T₁⟩
  exact k ro _ _ _ _ _ _ Q ho hrest (putAt_rel ep (hr.mono T₁.le) hv) (by rw [put_defers]; exact hdf) H₁ (fun a' h' ρ' act' w' kk a b c d => hQ a' h' ρ' act' w' kk a b c (T₁.trans d))
/-- A function without a body, that the model stands in for: what it comes to. -/
def XQ (P : Program) (f : FuncId) (args : List Value) (h : AW) (R : Value → AW → Prop) : Prop :=
  ∃ fn ex, P.funcs[f]? = some fn ∧ (fn.name == "runtime.NumGoroutine") = false ∧ fn.body.isNone = true ∧ Extern.findNext fn = none ∧ Extern.find fn = some ex ∧
    ∀ (ρ : Env) us w, LRel ρ args us → HRel P ρ h w → ∃ v h', R v h' ∧ Done P ρ h w (ex ⟨us⟩) v h'
def XS (P : Program) (f : FuncId) (args : List Value) (L : RL) (R : Value → RL → Prop) : Prop := ∀ h, Has h L → XQ P f args h fun v h' => ∃ L', R v L' ∧ Has h' L'
theorem XQ.mono {f : FuncId} {args : List Value} {R R' : Value → AW → Prop} (c : XQ P f args h R) (hr : ∀ v h', R v h' → R' v h') : XQ P f args h R' := by
  obtain ⟨fn, ex, h1, h2, h3, h4, h5, h6⟩ := c
  exact ⟨fn, ex, h1, h2, h3, h4, h5, fun ρ us w a b => let ⟨v, h', x, y⟩ := h6 ρ us w a b; ⟨v, h', hr _ _ x, y⟩⟩
theorem OQ.resX {K : Slots → AW → Prop} {f : FuncId} {args : List Value} (hw : wantedB ops o a = true) (e : RES P a o h f args) (hc : XQ P f args h fun v h₁ => ∃ a₁, putAt a o.dst v = some a₁ ∧ OQ P ops rest a₁ h₁ K) :
    OQ P ops (o :: rest) a h K := by
  intro ro ds opsA i ρ act w Q ho hd hr hdf H hQ
  obtain ⟨hoi, hrest⟩ := drop_at ho hd
  simp only [List.length_cons, List.range'_succ, wpOpsIn, hoi]
  rw [← wantedB_eq hr (by rw [ho]; exact sure_of_wanted hw), ho, hw, if_pos rfl]
  obtain ⟨us, hus, hrun⟩ := e.2 ρ act w hr H
  obtain ⟨fn, ex, hf, hname, hb, hn, he, hx⟩ := hc
  obtain ⟨v, h₁, ⟨a₁, ep, k⟩, u, w₁, ρ₁, hex, hv, H₁, T₁⟩ := hx ρ us w hus H
  refine ⟨fun _ _ => trivial, ?_⟩
  rw [Oper.semAt_eq _ _ _ e.1, hrun, run_callFunc_extern hf hname hb hn he, hex]
  exact k ro _ _ _ _ _ _ Q ho hrest (putAt_rel ep (hr.mono T₁.le) hv) (by rw [put_defers]; exact hdf) H₁ (fun a' h' ρ' act' w' kk a b c d => hQ a' h' ρ' act' w' kk a b c (T₁.trans d))
theorem OS.invC (hg : noGo P = true) {K : Slots → RL → Prop} {f : FuncId} {args : List Value} (hw : wantedB ops o a = true) (e : ∀ h, RES P a o h f args) (hc : CS P f args L fun v L₁ => ∃ a₁, putAt a o.dst v = some a₁ ∧ OS P ops rest a₁ L₁ K) : OS P ops (o :: rest) a L K := by
  intro h H
  refine OQ.resC hg hw (e h) ?_
  refine ⟨(hc h H).1, fun ρ us w hus HR => ((hc h H).2 ρ us w hus HR).mono ?_⟩
  rintro en w' ⟨v, h', u, ρ', rfl, ⟨L', ⟨a₁, ep, k⟩, H'⟩, r⟩
  exact ⟨v, h', u, ρ', rfl, ⟨a₁, ep, k h' H'⟩, r⟩
theorem OS.invX {K : Slots → RL → Prop} {f : FuncId} {args : List Value} (hw : wantedB ops o a = true) (e : ∀ h, RES P a o h f args) (hc : XS P f args L fun v L₁ => ∃ a₁, putAt a o.dst v = some a₁ ∧ OS P ops rest a₁ L₁ K) : OS P ops (o :: rest) a L K :=
  fun h H => OQ.resX hw (e h) ((hc h H).mono fun v h' ⟨L', ⟨a₁, ep, k⟩, H'⟩ => ⟨a₁, ep, k h' H'⟩)
theorem OS.extX {K : Slots → RL → Prop} {f : FuncId} {args : List Value} (hw : wantedB ops o a = true) (e : ∀ h, opB P a o h = some (.call f args)) (hc : XS P f args L fun v L₁ => ∃ a₁, putAt a o.dst v = some a₁ ∧ OS P ops rest a₁ L₁ K) : OS P ops (o :: rest) a L K :=
  OS.invX hw (fun h => RES.of (e h)) hc
theorem XS.mono {f : FuncId} {args : List Value} {R R' : Value → RL → Prop} (c : XS P f args L R) (hr : ∀ v L', R v L' → R' v L') : XS P f args L R' := fun h H => (c h H).mono fun v h' ⟨L', x, y⟩ => ⟨L', hr _ _ x, y⟩
/-- One whose value is known, whatever the world. -/
theorem XS.still {f : FuncId} {args : List Value} {fn : Func} {ex : Array Value → Sem Value} (hf : P.funcs[f]? = some fn) (hname : (fn.name == "runtime.NumGoroutine") = false) (hb : fn.body.isNone = true) (hn : Extern.findNext fn = none) (he : Extern.find fn = some ex)
    (hx : ∀ h, Has h L → ∀ (ρ : Env) us w, LRel ρ args us → HRel P ρ h w → ∃ u, (ex ⟨us⟩).run P w = .ok u w ∧ VRel ρ v u) : XS P f args L fun u L' => u = v ∧ L' = L := by
  intro h H
  refine ⟨fn, ex, hf, hname, hb, hn, he, fun ρ us w hus HR => ?_⟩
  obtain ⟨u, hr, hv⟩ := hx h H ρ us w hus HR
  exact ⟨v, h, ⟨L, ⟨rfl, rfl⟩, H⟩, .quiet HR hr hv⟩
theorem glob_heap {g r : Nat} {cs : List Value} (hm : (r, .glob g cs) ∈ L) {h : AW} (H : Has h L) {ρ : Env} {w : World} (HR : HRel P ρ h w) (hc : cs ≠ []) : ∃ e f, w.heap[g]? = some (.cells ⟨cs⟩ e f) := by
  obtain ⟨l, hl, h0, h1, h2⟩ := HR.loc r _ (H.get _ hm)
  rw [← h0.1]; exact h2 hc
theorem glob_cell {g r : Nat} {cs : List Value} (hm : (r, .glob g cs) ∈ L) {h : AW} (H : Has h L) {ρ : Env} {w : World} (HR : HRel P ρ h w) {i : Nat} {x : Value} (hx : cs[i]? = some x) : w.cell? ⟨g, i, none⟩ = some x := by
  obtain ⟨e, f, h3⟩ := glob_heap hm H HR (fun h => by rw [h] at hx; cases hx)
  simp only [World.cell?, h3]
  simpa using hx
/-- A call of the model's whole, whatever the world: it leaves all blocks as they were. -/
theorem CS.of_callsA {f : FuncId} {args : List Value} {v : Value} (hf : ∃ fn c, P.funcs[f]? = some fn ∧ fn.body = some c)
    (hc : ∀ h, Has h L → ∀ (ρ : Env) us w, LRel ρ args us → HRel P ρ h w → Calls P f ⟨us⟩ w fun e w' => ∃ u, e = .returned u ∧ VRel ρ v u ∧ Go.RowKit.Below w.heap.size w w') : CS P f args L fun u L' => u = v ∧ L' = L := by
  intro h H
  refine ⟨hf, fun ρ us w hus HR => ?_⟩
  refine (hc h H ρ us w hus HR).mono ?_
  rintro e w' ⟨u, rfl, hv, B⟩
  refine ⟨v, h, u, ρ, rfl, ⟨L, ⟨rfl, rfl⟩, H⟩, hv, ⟨fun r row hr => ?_, HR.inj, HR.fresh, HR.step⟩, ⟨Env.le_refl _, B.os, B.tape, B.output, B.size, fun r row l hr ho hl _ => ⟨r, row, l, hr, ho, hl, rfl⟩, fun k hk _ => B.block k hk, fun _ _ e => .inl e, ⟨0, by simp⟩, rfl⟩⟩
  obtain ⟨l, hl, hr'⟩ := HR.loc r row hr
  exact ⟨l, hl, hr'.keep (Env.le_refl _) (B.block _ hr'.lt)⟩
theorem CS.of_calls {f : FuncId} {args : List Value} {v : Value} (hf : ∃ fn c, P.funcs[f]? = some fn ∧ fn.body = some c) (ha : allPlain args = true)
    (hc : ∀ h, Has h L → ∀ (ρ : Env) w, HRel P ρ h w → Calls P f ⟨args⟩ w fun e w' => ∃ u, e = .returned u ∧ VRel ρ v u ∧ Go.RowKit.Below w.heap.size w w') : CS P f args L fun u L' => u = v ∧ L' = L :=
  CS.of_callsA hf fun h H ρ us w hus HR => by
    have hus' := hus.plain_eq ha
    subst hus'
    exact hc h H ρ w HR
/-- A package variable is read. -/
theorem OS.loadG {K : Slots → RL → Prop} {g r : Nat} {t : TypeId} {cs : List Value} {x : Value} (hw : wantedB ops o a = true) (ho : o.op = .load t (.global g)) (hm : (r, .glob g cs) ∈ L) (hx : cs[0]? = some x) (ht : isAggB P t = some false)
    (hv : ∀ h, Has h L → ∀ (ρ : Env) w, HRel P ρ h w → VRel ρ v x) (ep : putAt a o.dst v = some a₁) (k : OS P ops rest a₁ L K) : OS P ops (o :: rest) a L K :=
  fun h H => OQ.stay hw (fun c hc => by rw [ho] at hc; cases hc) (fun ρ act w hr HR => by
    obtain ⟨l, hl, h0, h1, h2⟩ := HR.loc r _ (H.get _ hm)
    have hc := glob_cell hm H HR hx
    refine ⟨x, ?_, hv h H ρ w HR⟩
    simp only [execOp, ho, Act.eval]
    simp [Instr.loadAt, Instr.sureAddr, loadVar, run_isAgg ht, hc]) ep (k h H)
theorem glob_ptr {g r i : Nat} {cs : List Value} (hm : (r, .glob g cs) ∈ L) {h : AW} (H : Has h L) {ρ : Env} {w : World} (HR : HRel P ρ h w) : VRel ρ (.pointer (some ⟨r, i, none⟩)) (.pointer (some ⟨g, i, none⟩)) ∧ ∀ u, VRel ρ (.pointer (some ⟨r, i, none⟩)) u → u = .pointer (some ⟨g, i, none⟩) := by
  obtain ⟨l, hl, h0, h1, h2⟩ := HR.loc r _ (H.get _ hm)
  have e : (.pointer (some ⟨g, i, none⟩) : Value) = .pointer (some ⟨l.block, l.base + i, none⟩) := by rw [h0.1, h0.2, Nat.zero_add]
  refine ⟨by rw [e]; exact .ptr hl, fun u hu => ?_⟩
  cases hu with
  | ptr hl' =>
    rw [hl] at hl'; simp only [Option.some.injEq] at hl'; subst hl'
    rw [e]
end
end Go.Am
