/- The abstract machine: ranges over functions. -/
import Derived.Test.YtmdcfnnoeimakaaGreatDoorAmE
import Derived.RangeFuncSeq

/- The abstract machine over listed rows: ranges over functions. The loop's record is a row; yield names it. -/
namespace Go.Am
open Go.MapKept
set_option linter.unusedVariables false
section
variable {P : Program}

/-! ### A call of yield -/
/-- The round that a call of yield asks for comes to a value and rows that are as R tells. -/
def YQ (P : Program) (r : Nat) (vs : List Value) (h : AW) (R : Value → AW → Prop) : Prop :=
  ∀ ρ us w l, LRel ρ vs us → HRel P ρ h w → ρ r = some l →
    YieldAt (wideAt none) 0 P l.block ⟨us⟩ w fun e w' => ∃ v h' u ρ', e = .returned u ∧ R v h' ∧ VRel ρ' v u ∧ HRel P ρ' h' w' ∧ Turn ρ h w ρ' h' w'
theorem YQ.mono {r : Nat} {vs : List Value} {h : AW} {R R' : Value → AW → Prop} (c : YQ P r vs h R) (hr : ∀ v h', R v h' → R' v h') : YQ P r vs h R' := fun ρ us w l a b e => by
  obtain ⟨fn, tmps, assign, body, h1, h2⟩ := c ρ us w l a b e
  exact ⟨fn, tmps, assign, body, h1, h2.mono fun e w' ⟨v, h', u, ρ', e1, e2, e3⟩ => ⟨v, h', u, ρ', e1, hr _ _ e2, e3⟩⟩

theorem OQ.yield {ops rest : List Oper} {o : Oper} {c : Call} {f : Operand} {a : Slots} {h : AW} {K : Slots → AW → Prop} {r : Nat} {vs : List Value} (hw : wantedB ops o a = true) (ho : o.op = .call c) (hc : c.callee = .value f) (hf : aev a f = some (.func (.yield r) #[] #[])) (ha : evs a c.args.toList = some vs)
    (hrow : ∃ p, h.get r = some (.loop p)) (hy : YQ P r vs h fun v h₁ => ∃ a₁, putAt a o.dst v = some a₁ ∧ OQ P ops rest a₁ h₁ K) : OQ P ops (o :: rest) a h K := by
  intro ro ds opsA i ρ act w Q hops hd hr hdf H hQ
  obtain ⟨hoi, hrest⟩ := drop_at hops hd
  simp only [List.length_cons, List.range'_succ, wpOpsIn, hoi]
  rw [← wantedB_eq hr (by rw [hops]; exact sure_of_wanted hw), hops, hw, if_pos rfl]
  obtain ⟨p, hp⟩ := hrow
  obtain ⟨l, hl, _⟩ := H.loc r _ hp
  have hfr := aev_rel hr hf
  have hargs := evs_rel hr ha
  generalize hev : act.eval f = fv at hfr
  cases hfr with
  | @yield _ l' hl' =>
    rw [hl] at hl'; simp only [Option.some.injEq] at hl'; subst hl'
    obtain ⟨fn, tmps, assign, body, hrun, hround⟩ := hy ρ _ w l hargs H hl
    have hex : (execOp act.eval o).run P w = .ok (.round l.block fn tmps assign body) w := by
      simp only [execOp, ho, resolve, hc, hev, Deferred.ofValue, Sem.run_bind, Sem.run_pure, Result.andThen_ok, invoke]
      rw [← hrun]
      congr 2
      apply Array.ext'
      simp
    refine ⟨fun _ _ => trivial, ?_⟩
    rw [Oper.semAt_eq _ _ _ (fun c' hc' => by rw [ho] at hc'; cases hc'), hex]
    refine ⟨fun hh => (by cases hh), hround.mono ?_⟩
    rintro en w₁ ⟨v, h₁, u, ρ₁, rfl, ⟨a₁, ep, k⟩, hv, H₁, T₁⟩
    exact k ro _ _ _ _ _ _ Q hops hrest (putAt_rel ep (hr.mono T₁.le) hv) (by rw [put_defers]; exact hdf) H₁ (fun a' h' ρ' act' w' kk a b c d => hQ a' h' ρ' act' w' kk a b c (T₁.trans d))
  | @func _ _ _ _ _ hpf => cases hpf

/-! ### A round -/
/-- The parameters' slots, as yield's arguments have them. -/
def putAll : Slots → List Nat → List Value → Option Slots
  | a, [], [] => some a
  | a, t :: ts, v :: vs => match setAt a t v with
    | some a' => putAll a' ts vs
    | none => none
  | _, _, _ => none
theorem putAll_rel {ρ : Env} : ∀ {ts : List Nat} {vs us : List Value} {a a' : Slots} {tmps : Array Value}, putAll a ts vs = some a' → LRel ρ a tmps.toList → LRel ρ vs us → ts.length = us.length ∧ LRel ρ a' ((ts.zip us).foldl (fun t (p, v) => t.setIfInBounds p v) tmps).toList
  | [], [], us, a, a', tmps, e, h, hv => by cases hv; simp [putAll] at e; subst e; exact ⟨rfl, h⟩
  | [], _ :: _, _, _, _, _, e, _, _ => by simp [putAll] at e
  | _ :: _, [], _, _, _, _, e, _, _ => by simp [putAll] at e
  | t :: ts, v :: vs, us, a, a', tmps, e, h, hv => by
    simp only [putAll] at e
    split at e
    case h_2 => cases e
    rename_i a₁ e₁
    cases hv with
    | @cons _ u _ us hv hvs =>
      have h1 : LRel ρ a₁ (tmps.setIfInBounds t u).toList := by
        rw [Array.toList_setIfInBounds]; exact setAt_rel e₁ h hv
      obtain ⟨hl, hr⟩ := putAll_rel (ts := ts) e h1 hvs
      exact ⟨by simp [hl], by simpa using hr⟩

def LP.busy (p : LP) : LP := { p with state := .busy }
/-- The record behind a round that was left so. -/
def LP.left (p : LP) : AExit → LP
  | .normal => { p with state := .ready, pending := none }
  | .ret => { p with state := .done, pending := some .ret }
  | .exit id => { p with state := .done, pending := some (.exit id) }
def AExit.goesOn : AExit → Bool
  | .normal => true
  | _ => false

theorem YQ.mk {r : Nat} {vs : List Value} {h : AW} {R : Value → AW → Prop} {p : LP} {a₀ : Slots} (hp : h.get r = some (.loop p)) (hst : p.state = .ready) (ha : putAll p.slots p.params vs = some a₀)
    (hx : LQ (some r) P p.assign a₀ h fun e a₁ h₁ => e = .normal ∧ h₁.get r = some (.loop p) ∧ ∃ h₂, h₁.put r (some (.loop p.busy)) = some h₂ ∧
      LQ (some r) P p.body a₁ h₂ fun e a₃ h₃ => h₃.get r = some (.loop p.busy) ∧ ∃ h₄, h₃.put r (some (.loop (p.left e))) = some h₄ ∧ R (.bool e.goesOn) h₄) : YQ P r vs h R := by
  intro ρ us w l hus H hl
  obtain ⟨l', hl', fn, tmps, D, hrec, htm⟩ := H.loc r _ hp
  rw [hl] at hl'; simp only [Option.some.injEq] at hl'; subst hl'
  obtain ⟨hlen, hrel⟩ := putAll_rel ha htm hus
  refine ⟨fn, _, p.assign, p.body, run_yield hrec (by simpa using hlen.symm), ?_⟩
  refine roundIn_of_wpIn (F := wideAt none) trivial ?_
  have hrel' : LRel ρ a₀ (((⟨p.params⟩ : Array Nat).zip (⟨us⟩ : Array Value)).foldl (fun t (q : Nat × Value) => t.setIfInBounds q.1 q.2) tmps).toList := by
    have e : ((⟨p.params⟩ : Array Nat).zip (⟨us⟩ : Array Value)).foldl (fun t (q : Nat × Value) => t.setIfInBounds q.1 q.2) tmps = (p.params.zip us).foldl (fun t (q : Nat × Value) => t.setIfInBounds q.1 q.2) tmps := by
      rw [← Array.foldl_toList]; simp
    rw [e]; exact hrel
  refine hx w.heap.size (some l.block) ρ _ w _ (.some hl) hrel' (Marks.nil _ _ _) H ?_
  rintro e a₁ h₁ ρ₁ act₁ w₁ ⟨rfl, hg₁, h₂, hput, hbody⟩ hr₁ hd₁ H₁ T₁
  obtain ⟨l₁, hl₁, fn₁, tmps₁, D₁, hrec₁, htm₁⟩ := H₁.loc r _ hg₁
  rw [T₁.le _ _ hl] at hl₁; simp only [Option.some.injEq] at hl₁; subst hl₁
  have hsame : ({ state := p.state, pending := p.pending, fn := fn₁, tmps := tmps₁, params := ⟨p.params⟩, assign := p.assign, body := p.body, defers := D₁ } : Loop).state = .ready := hst
  refine ⟨_, run_beginRound hrec₁ hsame, ?_⟩
  obtain ⟨H₂, T₂⟩ := H₁.writeRow (o1 := .loop { state := .busy, pending := p.pending, fn := fn₁, tmps := tmps₁, params := ⟨p.params⟩, assign := p.assign, body := p.body, defers := D₁ }) (row1 := .loop p.busy) hg₁ rfl (T₁.le _ _ hl) hrec₁ hput
    ⟨fn₁, tmps₁, D₁, (heap_set hrec₁).1, htm₁⟩
  refine hbody w.heap.size (some l.block) ρ₁ act₁ _ _ (.some (T₁.le _ _ hl)) hr₁ (hd₁.turn T₂) H₂ ?_
  rintro e a₃ h₃ ρ₃ act₃ w₃ ⟨hg₃, h₄, hput₃, hR⟩ hr₃ hd₃ H₃ T₃
  have hl₃ := T₃.le _ _ (T₁.le _ _ hl)
  obtain ⟨l₃, hl₃', fn₃, tmps₃, D₃, hrec₃, htm₃⟩ := H₃.loc r _ hg₃
  rw [hl₃] at hl₃'; simp only [Option.some.injEq] at hl₃'; subst hl₃'
  have fin : ∀ jump : Option Code, (p.left e) = { p with state := if jump.isNone then .ready else .done, pending := jump } → jump.isNone = e.goesOn → ∃ v w', (Instr.endRound l.block jump).run P w₃ = .ok v w' ∧
      ∃ v₁ h' u ρ', Ending.returned v = .returned u ∧ R v₁ h' ∧ VRel ρ' v₁ u ∧ HRel P ρ' h' w' ∧ Turn ρ h w ρ' h' w' := by
    intro jump hj he
    refine ⟨_, _, run_endRound jump hrec₃, ?_⟩
    obtain ⟨H₄, T₄⟩ := H₃.writeRow (o1 := .loop { state := if jump.isNone then .ready else .done, pending := jump, fn := fn₃, tmps := tmps₃, params := ⟨p.params⟩, assign := p.assign, body := p.body, defers := D₃ }) (row1 := .loop (p.left e)) hg₃ rfl hl₃ hrec₃ hput₃
      (by rw [hj]; exact ⟨fn₃, tmps₃, D₃, (heap_set hrec₃).1, htm₃⟩)
    exact ⟨.bool e.goesOn, h₄, _, ρ₃, rfl, hR, by rw [he]; exact .bool _, H₄, T₁.trans (T₂.trans (T₃.trans T₄))⟩
  cases e with
  | normal => exact fin none rfl rfl
  | ret => exact fin (some .ret) rfl rfl
  | exit id => exact fin (some (.exit id)) rfl rfl

/-! ### The statement -/
theorem HRel.putRec {ρ : Env} {h : AW} {w : World} {D : Nat} {rc : Loop} (H : HRel P ρ h w) (hD : w.heap[D]? = some (.loop rc)) (ho : ∀ r row l, h.get r = some row → row.own = true → ρ r = some l → l.block ≠ D) (o : Obj) : HRel P ρ h (w.putObj D o) := by
  refine ⟨fun r row hr => ?_, H.inj, H.fresh, H.step⟩
  obtain ⟨l, hl, hrow⟩ := H.loc r row hr
  refine ⟨l, hl, ?_⟩
  by_cases e : l.block = D
  · cases hown : row.own with
    | true => exact absurd e (ho r row l hr hown hl)
    | false =>
      cases row with
      | ro cs =>
        refine ⟨by rw [World.putObj_size]; exact hrow.1, fun i v hv => ?_⟩
        obtain ⟨u, hu, _⟩ := hrow.2 i v hv
        simp only [World.cell?, e, hD] at hu
        cases hu
      | glob g cs =>
        refine ⟨hrow.1, by rw [World.putObj_size]; exact hrow.2.1, fun hc => ?_⟩
        obtain ⟨e1, f1, h3⟩ := hrow.2.2 hc
        rw [e, hD] at h3
        cases h3
      | _ => cases hown
  · exact hrow.keep (Env.le_refl _) (World.putObj_heap_other e)
/-- What lay stays, and a block is laid that no row lies in. -/
theorem HRel.laid {ρ : Env} {h : AW} {w : World} (H : HRel P ρ h w) (o : Obj) : HRel P ρ h (w.alloc o) ∧ Turn ρ h w ρ h (w.alloc o) := by
  have old : ∀ k, k < w.heap.size → (w.alloc o).heap[k]? = w.heap[k]? := fun k hk => by
    show (w.heap.push o)[k]? = _
    rw [Array.getElem?_push_lt hk, Array.getElem?_eq_getElem hk]
  refine ⟨⟨fun r row hr => ?_, H.inj, H.fresh, H.step⟩, ⟨Env.le_refl _, rfl, rfl, rfl, by simp, fun r row l hr ho hl _ => ⟨r, row, l, hr, ho, hl, rfl⟩, fun k hk _ => old k hk, fun _ _ e => .inl e, ⟨0, by simp⟩, rfl⟩⟩
  obtain ⟨l, hl, hrow⟩ := H.loc r row hr
  exact ⟨l, hl, hrow.keep (Env.le_refl _) (old _ hrow.lt)⟩
theorem Marks.push {n₀ : Nat} {ρ : Env} {h : AW} {w : World} {ds : List Deferred} (M : Marks n₀ ρ h w ds) (H : HRel P ρ h w) : Marks n₀ ρ h (w.alloc (.deferred (some []))) ({ target := .collected w.heap.size, args := #[] } :: ds) := by
  have M' := M.turn (H.laid (.deferred (some []))).2
  refine ⟨M'.base, fun d hd => ?_, ?_⟩
  · rcases List.mem_cons.1 hd with rfl | hd
    · refine ⟨w.heap.size, rfl, M.base, World.alloc_heap_new _ _, fun r row l hr _ hl e => ?_⟩
      obtain ⟨l', hl', hrow⟩ := H.loc r row hr
      rw [hl] at hl'; simp only [Option.some.injEq] at hl'; subst hl'
      have := hrow.lt; omega
    · exact M'.each d hd
  · rw [List.map_cons, List.nodup_cons]
    refine ⟨fun hm => ?_, M.nd⟩
    obtain ⟨d, hd, e⟩ := List.mem_map.1 hm
    obtain ⟨D, h1, _, h3, _⟩ := M.each d hd
    rw [h1] at e
    simp only [Target.collected.injEq] at e
    have := (Array.getElem?_eq_some_iff.1 h3).1
    omega
/-- What comes behind the statement: its jump is carried out. -/
def LP.after (p : LP) (R : AExit → Slots → RL → Prop) (a : Slots) (L : RL) : Prop :=
  p.state ≠ .busy ∧ match p.pending with
  | none => R .normal a L
  | some .ret => R .ret a L
  | some (.exit id) => R (.exit id) a L
  | _ => False
def LP.start (a : Slots) (ps : List Nat) (assign body : Code) : LP := { state := .ready, pending := none, slots := a, params := ps, assign, body }

theorem LS.rangeFunc (hgo : noGo P = true) {g : Operand} {ps : Array Tmp} {assign body : Code} {a : Slots} {L : RL} {R : AExit → Slots → RL → Prop} {f : FuncId} {captured : List Value}
    (hg : aev a g = some (.func (.func f) #[] ⟨captured⟩))
    (hc : ∀ r, CS P f (.func (.yield r) #[] #[] :: captured) ((r, .loop (LP.start a ps.toList assign body)) :: L) fun v L₂ => ∃ i p L₃, L₂[i]? = some (r, .loop p) ∧ dropL L₂ i = some L₃ ∧ p.after R a L₃) : LSr none P (.rangeFunc g ps assign body) a L R := by
  intro h Hh n₀ ro ρ act w Q hrd hr hd H hQ
  cases hrd
  refine wpIn_rangeFunc fun fn _ => ?_
  obtain ⟨h₁, e₁⟩ := h.new_some (.loop (LP.start a ps.toList assign body))
  obtain ⟨H₀, T₀⟩ := H.laid (.deferred (some []))
  have M₀ := hd.push H
  have hsz : (w.alloc (.deferred (some []))).heap.size = w.heap.size + 1 := by simp
  obtain ⟨H₁, T₁⟩ := H₀.new_block (w' := (w.alloc (.deferred (some []))).alloc (.loop { state := .ready, pending := none, fn, tmps := act.tmps, params := ps, assign, body, defers := w.heap.size })) (l := ⟨w.heap.size + 1, 0, 0, 0⟩) e₁ (by simp) rfl rfl rfl (by simp) (fun k hk => by
      show ((w.alloc (.deferred (some []))).heap.push _)[k]? = _
      rw [Array.getElem?_push_lt hk, Array.getElem?_eq_getElem hk])
    ⟨fn, act.tmps, w.heap.size, by
      have := World.alloc_heap_new (w.alloc (.deferred (some []))) (.loop { state := .ready, pending := none, fn, tmps := act.tmps, params := ps, assign, body, defers := w.heap.size })
      rw [hsz] at this; exact this, hr.mono (upd_le (by exact H.fresh0))⟩
  have M₁ := M₀.turn T₁
  have hent := run_enterLoop_outer (P := P) (w := w) fn act.tmps ps assign body
  generalize (w.alloc (.deferred (some []))).alloc (.loop { state := .ready, pending := none, fn, tmps := act.tmps, params := ps, assign, body, defers := w.heap.size }) = W₁ at H₁ T₁ M₁ hent
  have hcr := aev_rel hr hg
  generalize hev : act.eval g = gv at hcr
  cases hcr with
  | @func _ _ b _ d _ hb hcap =>
    have hb0 : b = #[] := by
      cases b with | mk b => cases hb; rfl
    subst hb0
    obtain ⟨⟨fd, cd, hfd, hbd⟩, hcalls⟩ := (hc h.next) h₁ (Hh.new e₁)
    refine ⟨w.heap.size + 1, _, W₁, { target := .fn (.func f) d, args := #[.func (.yield (w.heap.size + 1)) #[] #[]] }, W₁, f, #[.func (.yield (w.heap.size + 1)) #[] #[]] ++ d, W₁, hent, ?_, fun _ _ => trivial, (by simp only [invoke]; exact run_callFunc hgo hfd hbd _ _), fun hh => (by cases hh), callsIn_at.2 ?_⟩
    · simp only [resolve, hev]
      simp [Deferred.ofValue, Act.eval]
    · have hus : LRel (upd ρ h.next ⟨w.heap.size + 1, 0, 0, 0⟩) (.func (.yield h.next) #[] #[] :: captured) (#[Value.func (.yield (w.heap.size + 1)) #[] #[]] ++ d).toList := by
        rw [Array.toList_append]
        refine .cons (.yield (l := ⟨w.heap.size + 1, 0, 0, 0⟩) (by simp [upd])) (hcap.mono (upd_le (by exact H.fresh0)))
      refine (hcalls _ _ _ hus H₁).mono ?_
      rintro en w₂ ⟨v, h₂, u, ρ₂, rfl, ⟨L₂, ⟨i, p, L₃, hLi, hdr, hbusy, haft⟩, Hh₂⟩, hv, H₂, T₂⟩
      have hlr : ρ₂ h.next = some ⟨w.heap.size + 1, 0, 0, 0⟩ := T₂.le _ _ (by simp [upd])
      obtain ⟨l', hl', fn₂, tmps₂, D₂, hrec₂, htm₂⟩ := H₂.loc _ _ (Hh₂.at hLi)
      rw [hlr] at hl'; simp only [Option.some.injEq] at hl'; subst hl'
      obtain ⟨h₃, e₃⟩ := h₂.put_some h.next none
      obtain ⟨H₃, T₃⟩ := H₂.drop e₃
      have Hh₃ := Hh₂.drop hLi e₃
      rw [← dropL_eq hdr] at Hh₃
      refine ⟨p.pending, _, run_endLoop hrec₂ hbusy, ?_⟩
      have hno : ∀ r row l, h₃.get r = some row → row.own = true → ρ₂ r = some l → l.block ≠ w.heap.size + 1 := fun r row l hr ho hl e => by
        have hg3 := (put_eq e₃).1 r
        rw [hr] at hg3
        split at hg3
        · cases hg3
        · rename_i hne
          exact hne (H₂.inj r h.next row _ l _ hg3.symm (Hh₂.at hLi) hl hlr e (.inl ho))
      have H₄ := H₃.putRec hrec₂ hno (.loop { state := .exhausted, pending := p.pending, fn := fn₂, tmps := tmps₂, params := ⟨p.params⟩, assign := p.assign, body := p.body, defers := D₂ })
      have T₀₃ := T₀.trans (T₁.trans (T₂.trans T₃))
      have T₄ := T₀₃.putMark (D := w.heap.size + 1) (by omega) (.loop { state := .exhausted, pending := p.pending, fn := fn₂, tmps := tmps₂, params := ⟨p.params⟩, assign := p.assign, body := p.body, defers := D₂ })
      have M₃ := M₁.turn (T₂.trans T₃)
      have M₄ : Marks n₀ ρ₂ h₃ (w₂.putObj (w.heap.size + 1) (.loop { state := .exhausted, pending := p.pending, fn := fn₂, tmps := tmps₂, params := ⟨p.params⟩, assign := p.assign, body := p.body, defers := D₂ })) ({ target := .collected w.heap.size, args := #[] } :: act.defers) := by
        refine ⟨by rw [World.putObj_size]; exact M₃.base, fun d hd => ?_, M₃.nd⟩
        obtain ⟨D, h1, h2, h3, h4⟩ := M₃.each d hd
        refine ⟨D, h1, h2, (World.putObj_heap_other fun e => ?_).trans h3, h4⟩
        subst e
        rw [hrec₂] at h3; cases h3
      have hr' : LRel ρ₂ a act.tmps.toList := hr.mono T₄.le
      have out : ∀ e, R e a L₃ → Q e.exit' { act with defers := { target := .collected w.heap.size, args := #[] } :: act.defers } (w₂.putObj (w.heap.size + 1) (.loop { state := .exhausted, pending := p.pending, fn := fn₂, tmps := tmps₂, params := ⟨p.params⟩, assign := p.assign, body := p.body, defers := D₂ })) := fun e hR =>
        hQ e a h₃ ρ₂ _ _ ⟨L₃, hR, Hh₃⟩ hr' M₄ H₄ T₄
      revert haft out
      cases p.pending with
      | none => exact fun haft out => out .normal haft
      | some c =>
        cases c with
        | ret => exact fun haft out => wpIn_ret (out .ret haft)
        | exit id => exact fun haft out => wpIn_exit (out (.exit id) haft)
        | _ => exact fun haft _ => haft.elim
end

/-! ### Over listed rows -/
section
variable {P : Program}
def YS (P : Program) (r : Nat) (vs : List Value) (L : RL) (R : Value → RL → Prop) : Prop := ∀ h, Has h L → YQ P r vs h fun v h' => ∃ L', R v L' ∧ Has h' L'
theorem YS.mono {r : Nat} {vs : List Value} {L : RL} {R R' : Value → RL → Prop} (c : YS P r vs L R) (hr : ∀ v L', R v L' → R' v L') : YS P r vs L R' := fun h H => (c h H).mono fun v h' ⟨L', e, H'⟩ => ⟨L', hr _ _ e, H'⟩
theorem YS.sub {r : Nat} {vs : List Value} {L L' : RL} {R : Value → RL → Prop} (s : Sub L' L) (c : YS P r vs L' R) : YS P r vs L R := fun h H => c h (s.has H)
theorem OS.yield {ops rest : List Oper} {o : Oper} {c : Call} {f : Operand} {a : Slots} {L : RL} {K : Slots → RL → Prop} {r : Nat} {vs : List Value} (hw : wantedB ops o a = true) (ho : o.op = .call c) (hc : c.callee = .value f) (hf : aev a f = some (.func (.yield r) #[] #[])) (ha : evs a c.args.toList = some vs)
    (hrow : ∃ p, (r, .loop p) ∈ L) (hy : YS P r vs L fun v L₁ => ∃ a₁, putAt a o.dst v = some a₁ ∧ OS P ops rest a₁ L₁ K) : OS P ops (o :: rest) a L K :=
  fun h H => OQ.yield hw ho hc hf ha (let ⟨p, hp⟩ := hrow; ⟨p, H.get _ hp⟩) ((hy h H).mono fun v h' ⟨L', ⟨a₁, ep, k⟩, H'⟩ => ⟨a₁, ep, k h' H'⟩)
/-- One round: the loop's record stands at place i. -/
theorem YS.mk (i : Nat) {r : Nat} {vs : List Value} {L : RL} {R : Value → RL → Prop} {p : LP} {a₀ : Slots} (hi : L[i]? = some (r, .loop p)) (hst : p.state = .ready) (ha : putAll p.slots p.params vs = some a₀)
    (hx : LSr (some r) P p.assign a₀ L fun e a₁ L₁ => e = .normal ∧ ∃ j L₂, L₁[j]? = some (r, .loop p) ∧ setL L₁ j (r, .loop p.busy) = some L₂ ∧
      LSr (some r) P p.body a₁ L₂ fun e a₃ L₃ => ∃ m L₄, L₃[m]? = some (r, .loop p.busy) ∧ setL L₃ m (r, .loop (p.left e)) = some L₄ ∧ R (.bool e.goesOn) L₄) : YS P r vs L R := fun h H => by
  refine YQ.mk (H.at hi) hst ha ((hx h H).mono ?_)
  rintro e a₁ h₁ ⟨L₁, ⟨rfl, j, L₂, hj, hset, k⟩, H₁⟩
  obtain ⟨h₂, e₂⟩ := h₁.put_some r (some (.loop p.busy))
  have H₂ := H₁.put hj e₂
  rw [← setL_eq hset] at H₂
  refine ⟨rfl, H₁.at hj, h₂, e₂, (k h₂ H₂).mono ?_⟩
  rintro e a₃ h₃ ⟨L₃, ⟨m, L₄, hm, hset₃, hR⟩, H₃⟩
  obtain ⟨h₄, e₄⟩ := h₃.put_some r (some (.loop (p.left e)))
  have H₄ := H₃.put hm e₄
  rw [← setL_eq hset₃] at H₄
  exact ⟨H₃.at hm, h₄, e₄, L₄, hR, H₄⟩
end
end Go.Am

