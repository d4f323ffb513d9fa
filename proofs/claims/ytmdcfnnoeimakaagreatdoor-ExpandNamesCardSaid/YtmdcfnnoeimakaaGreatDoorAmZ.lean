/- The abstract machine: capacities, clear, pointers to two places, lists that do not overlap. -/
import Derived.Test.YtmdcfnnoeimakaaGreatDoorAmR
import Derived.Test.YtmdcfnnoeimakaaGreatDoorAmK
import Derived.Lib.Overlaps

/- The abstract machine over listed rows: a capacity that is looked at; clear; pointers to two places; whether two lists overlap; a call known by rows of its own. -/
namespace Go.Am
set_option linter.unusedVariables false
section
variable {P : Program}

/-! ### A row's cells behind those that are known -/
theorem HRel.widen {ρ : Env} {h h₁ : AW} {w : World} {r n sz : Nat} {e : TypeId} {cs : List Value} {l : Loc} {c : Nat} (H : HRel P ρ h w) (hg : h.get r = some (.cells e cs)) (hl : ρ r = some l) (hs : sizeB P e = some sz) (hc : 0 + c * l.esz ≤ l.ext) (hn : cs.length = n * sz) (hnc : n ≤ c)
    (hp : h.put r (some (.cells e (cs ++ List.replicate ((c - n) * sz) (.chan none)))) = some h₁) : HRel P ρ h₁ w := by
  obtain ⟨hget, hnx, hst⟩ := put_eq hp
  refine ⟨fun m row hm => ?_, ?_, by rw [hnx, hst]; exact H.fresh, by rw [hst]; exact H.step⟩
  · rw [hget] at hm
    split at hm
    · simp only [Option.some.injEq] at hm
      subst hm; subst_vars
      obtain ⟨l', hl', C, f, h1, h2, h3, h4, h5, h6⟩ := H.loc _ _ hg
      rw [hl] at hl'; simp only [Option.some.injEq] at hl'; subst hl'
      have hesz : l.esz = sz := by have := h5.size; rw [hs] at this; simpa using this.symm
      have hmul : n * sz + (c - n) * sz = c * sz := by rw [← Nat.add_mul]; congr 1; omega
      rw [hesz] at hc
      refine ⟨l, hl, C, f, h1, h2, by simp; omega, h4, h5, fun i v hv => ?_⟩
      by_cases hi : i < cs.length
      · rw [List.getElem?_append_left hi] at hv; exact h6 i v hv
      · rw [List.getElem?_append_right (by omega), List.getElem?_replicate] at hv
        split at hv
        · simp only [Option.some.injEq] at hv; subst hv
          have hlt : l.base + i < C.size := by omega
          exact ⟨C[l.base + i], Array.getElem?_eq_getElem hlt, .any _⟩
        · cases hv
    · exact H.loc m row hm
  · intro a b rowa rowb la lb ha hb hla hlb hab hown
    rw [hget] at ha hb
    have key : ∀ m row, (if m = r then some (ARow.cells e (cs ++ List.replicate ((c - n) * sz) (.chan none))) else h.get m) = some row → ∃ row', h.get m = some row' ∧ (row.own = true → row'.own = true) := fun m row hm => by
      split at hm
      · subst_vars; exact ⟨_, hg, fun _ => rfl⟩
      · exact ⟨_, hm, id⟩
    obtain ⟨_, ha', oa⟩ := key _ _ ha
    obtain ⟨_, hb', ob⟩ := key _ _ hb
    exact H.inj a b _ _ la lb ha' hb' hla hlb hab (hown.imp oa ob)
/-- What has become of it since a row was known farther. -/
theorem Turn.widen {ρ ρ' : Env} {h h₁ h' : AW} {w w' : World} {r : Nat} {row row₁ : ARow} (hg : h.get r = some row) (ho : row.own = true) (hp : h.put r (some row₁) = some h₁) (T : Turn ρ h₁ w ρ' h' w') : Turn ρ h w ρ' h' w' := by
  obtain ⟨hget, hnx, hst⟩ := put_eq hp
  refine ⟨T.le, T.os, T.tape, T.output, T.size, fun m row' l hm hmo hl hlt => ?_, fun k hk hno => T.keep k hk fun m row' l hm hmo hl => ?_, fun m l hm => ?_, ?_, by rw [T.steps, hst]⟩
  · obtain ⟨r₀, row₀, l₀, a, b, c, d⟩ := T.own m row' l hm hmo hl hlt
    rw [hget] at a
    split at a
    · subst_vars; exact ⟨_, _, l₀, hg, ho, c, d⟩
    · exact ⟨r₀, row₀, l₀, a, b, c, d⟩
  · rw [hget] at hm
    split at hm
    · subst_vars; exact hno _ _ l hg ho hl
    · exact hno m row' l hm hmo hl
  · rcases T.new m l hm with h1 | ⟨j, hj⟩
    · exact .inl h1
    · exact .inr ⟨j, by rw [hj, hnx, hst]⟩
  · obtain ⟨j, hj⟩ := T.next
    exact ⟨j, by rw [hj, hnx, hst]⟩
/-- Cells that nothing is known of. -/
abbrev junk (n : Nat) : List Value := List.replicate n (.chan none)
/-- A capacity that is not known is some number. -/
theorem CS.reveal {f : FuncId} {r n sz : Nat} {e : TypeId} {cs args : List Value} {L : RL} {R : Value → RL → Prop} (hs : sizeB P e = some sz) (hn : cs.length = n * sz)
    (k : ∀ c, n ≤ c → c < openCap → CS P f (.slice (some ⟨r, 0, none⟩) n c :: args) ((r, .cells e (cs ++ junk ((c - n) * sz))) :: L) R) (hnb : n < openCap) : CS P f (.slice (some ⟨r, 0, none⟩) n openCap :: args) ((r, .cells e cs) :: L) R := by
  intro h H
  have hg : h.get r = some (.cells e cs) := H.get (r, _) (List.mem_cons_self ..)
  have put : ∀ c, ∃ h₁, h.put r (some (.cells e (cs ++ junk ((c - n) * sz)))) = some h₁ ∧ Has h₁ ((r, .cells e (cs ++ junk ((c - n) * sz))) :: L) := fun c => by
    obtain ⟨h₁, e₁⟩ := h.put_some r (some (.cells e (cs ++ junk ((c - n) * sz))))
    exact ⟨h₁, e₁, H.put (i := 0) rfl e₁⟩
  refine ⟨?_, fun ρ us w hus HR => ?_⟩
  · obtain ⟨h₁, e₁, H₁⟩ := put n
    exact (k n (Nat.le_refl _) hnb h₁ H₁).1
  · cases hus with
    | cons h1 h2 =>
    cases h1 with
    | @slice _ _ _ _ cap' a hl hc ha =>
    obtain ⟨l, hlr, hrow⟩ := HR.loc r _ hg
    have hcap : ∃ c, c = cap' ∧ c < openCap ∧ HRel P ρ h w ∧ (0 + c * l.esz ≤ l.ext) := by
      by_cases hz : cap' = 0
      · subst hz; exact ⟨0, rfl, by decide, HR, by omega⟩
      · obtain ⟨l', e1, e2, e3⟩ := ha hz
        rw [hlr] at e1; simp only [Option.some.injEq] at e1; subst e1
        obtain ⟨e3, e4⟩ := e3 rfl
        exact ⟨cap', rfl, e4, HR, e3⟩
    obtain ⟨c, rfl, hco, _, hext⟩ := hcap
    obtain ⟨h₁, e₁, H₁⟩ := put c
    have HR₁ := HR.widen hg hlr hs hext hn hl e₁
    refine ((k c hl hco h₁ H₁).2 ρ _ w (.cons (.slice hl (fun _ => rfl) fun hz => ?_) h2) HR₁).mono ?_
    · obtain ⟨l', e1, e2, e3⟩ := ha hz
      exact ⟨l', e1, e2, fun hh => by omega⟩
    · rintro en w' ⟨v, h', u, ρ', e1, e2, e3, e4, T⟩
      exact ⟨v, h', u, ρ', e1, e2, e3, e4, T.widen hg rfl e₁⟩

section
variable {o : Oper} {a a₁ : Slots} {L L₁ : RL} {x y z : Operand} {t z' : TypeId}
theorem e_cap {c : Call} {n cap : Nat} {base : Option Addr} {tm e : TypeId} (ho : o.op = .call c) (hc : c.callee = .builtin .cap) (ha : evs a c.args.toList = some [.slice base n cap]) (ht : c.argTypes[0]? = some tm) (hu : P.underlying tm = some (.slice e)) (hne : cap < openCap) : ∀ h, opB P a o h = some (.val (.int .i64 (cap : Nat)) h) := by
  intro h
  have hb : Nat.beq cap openCap = false := beq_false (by omega)
  simp only [opB, ho, ha, callOpB, hc, capB, ht, hu, hb, ret, goInt]
theorem e_clear (i : Nat) {c : Call} {n cap r off : Nat} {tm e e' : TypeId} {cs cs' zs : List Value} {sz : Nat} (ho : o.op = .call c) (hc : c.callee = .builtin .clear) (ha : evs a c.args.toList = some [.slice (some ⟨r, off, none⟩) n cap]) (ht : c.argTypes[0]? = some tm) (hu : P.underlying tm = some (.slice e))
    (hn : 1 ≤ n) (hL : L[i]? = some (r, .cells e' cs)) (hz : zerosB P e = some zs) (hs : sizeB P e = some sz) (hzl : zs.length = sz) (hs1 : 1 ≤ sz) (hone : allOne (repL zs n) = true) (hlay : lay cs off (repL zs n) = some cs') (hset : setL L i (r, .cells e' cs') = some L₁) :
    ∀ h, Has h L → ∃ h₁, opB P a o h = some (.val (.tuple #[]) h₁) ∧ Has h₁ L₁ := by
  intro h H
  obtain ⟨h₁, e₁⟩ := h.put_some r (some (.cells e' cs'))
  have := setL_eq hset
  subst this
  have h0 : Nat.beq n 0 = false := beq_false (by omega)
  have hz1 : Nat.beq zs.length sz = true := beq_true hzl
  have hs2 : Nat.ble 1 sz = true := Nat.ble_eq_true_of_le hs1
  refine ⟨h₁, ?_, H.put hL e₁⟩
  have e : clearB P c.argTypes [.slice (some ⟨r, off, none⟩) n cap] h = some (.tuple #[], h₁) := by
    unfold clearB
    simp only [ht, hu, h0, H.row hL, hz, hs, hz1, hs2, Bool.and_self, rep_of, hone, hlay, e₁]
  simp only [opB, ho, ha, callOpB, hc, e, ret2]
theorem e_clear0 {c : Call} {cap r off : Nat} {tm e : TypeId} (ho : o.op = .call c) (hc : c.callee = .builtin .clear) (ha : evs a c.args.toList = some [.slice (some ⟨r, off, none⟩) 0 cap]) (ht : c.argTypes[0]? = some tm) (hu : P.underlying tm = some (.slice e)) : ∀ h, opB P a o h = some (.val (.tuple #[]) h) := by
  intro h
  simp only [opB, ho, ha, callOpB, hc, clearB, ht, hu, ret2]

/-! ### Pointers to two places -/
theorem e_two {op : BinOp} {b : Bool} (hop : (op = .eql ∧ b = false) ∨ (op = .neq ∧ b = true)) {r r' off off' n : Nat} {e e' el : TypeId} {cs cs' : List Value} (ho : o.op = .binOp op t x y z') (hx : aev a x = some (.pointer (some ⟨r, off, none⟩))) (hy : aev a y = some (.pointer (some ⟨r', off', none⟩))) (hu : P.underlying t = some (.pointer el)) (hz : sizeB P el = some (n + 1))
    (h1 : (r, .cells e cs) ∈ L) (h2 : (r', .cells e' cs') ∈ L) (hne : r ≠ r') (u1 : isU8 P e = false) (u2 : isU8 P e' = false) : ∀ h, Has h L → opB P a o h = some (.val (.bool b) h) := by
  intro h H
  have g1 : getRow h r = some (e, cs) := by unfold getRow; rw [H.get _ h1]
  have g2 : getRow h r' = some (e', cs') := by unfold getRow; rw [H.get _ h2]
  have hb : Nat.beq r r' = false := beq_false hne
  have hq : eqB P 100 t (.pointer (some ⟨r, off, none⟩)) (.pointer (some ⟨r', off', none⟩)) = none := by simp only [eqB, hu, hb, Bool.false_and]
  have h2' : twoB P t (.pointer (some ⟨r, off, none⟩)) (.pointer (some ⟨r', off', none⟩)) h = true := by simp only [twoB, hu, g1, g2, hz, hb, u1, u2, Bool.not_false, Bool.and_self]
  rcases hop with ⟨rfl, rfl⟩ | ⟨rfl, rfl⟩
  · simp only [opB, ho, hx, hy, eqOk, binB, hq, h2', ret]
  · simp only [opB, ho, hx, hy, eqOk, binB, hq, h2', ret]
end
/-! ### Functions that the model stands in for, which look at the rows -/
def ExtH (P : Program) (f : FuncId) (args : List Value) (v : Value) (h : AW) : Prop :=
  ∃ fn ex, P.funcs[f]? = some fn ∧ (fn.name == "runtime.NumGoroutine") = false ∧ fn.body.isNone = true ∧ Extern.findNext fn = none ∧ Extern.find fn = some ex ∧ ∀ (ρ : Env) us w, LRel ρ args us → HRel P ρ h w → ∃ u, (ex ⟨us⟩).run P w = .ok u w ∧ VRel ρ v u
theorem OQ.extH {ops rest : List Oper} {o : Oper} {a a₁ : Slots} {h : AW} {v : Value} {K : Slots → AW → Prop} {f : FuncId} {args : List Value} (hx : ExtH P f args v h) (hw : wantedB ops o a = true) (e : opB P a o h = some (.call f args)) (ep : putAt a o.dst v = some a₁) (k : OQ P ops rest a₁ h K) : OQ P ops (o :: rest) a h K := by
  intro ro ds opsA i ρ act w Q ho hd hr hdf H hQ
  obtain ⟨hoi, hrest⟩ := drop_at ho hd
  simp only [List.length_cons, List.range'_succ, wpOpsIn, hoi]
  rw [← wantedB_eq hr (by rw [ho]; exact sure_of_wanted hw), ho, hw, if_pos rfl]
  obtain ⟨us, hus, hrun⟩ := opB_sound hr H e
  obtain ⟨fn, ex, hf, hname, hb, hn, he, hx⟩ := hx
  obtain ⟨u, hex, hv⟩ := hx ρ us w hus H
  have hnext := k ro _ _ _ _ _ _ Q ho hrest (putAt_rel ep hr hv) (by rw [put_defers]; exact hdf) H hQ
  refine ⟨fun _ _ => trivial, ?_⟩
  rw [Oper.semAt_eq _ _ _ (opB_noDefer e), hrun, run_callFunc_extern hf hname hb hn he, hex]
  exact hnext
theorem OS.extH {ops rest : List Oper} {o : Oper} {a a₁ : Slots} {L : RL} {K : Slots → RL → Prop} {f : FuncId} {args : List Value} {v : Value} (hx : ∀ h, Has h L → ExtH P f args v h) (hw : wantedB ops o a = true) (e : ∀ h, opB P a o h = some (.call f args)) (ep : putAt a o.dst v = some a₁) (k : OS P ops rest a₁ L K) : OS P ops (o :: rest) a L K :=
  fun h H => OQ.extH (hx h H) hw (e h) ep (k h H)
/-- Two lists that lie in two rows do not overlap. -/
theorem ext_overlaps {f : FuncId} {fn : Func} {tS tR e e₁ e₂ : TypeId} {L : RL} {r r' o o' n n' c c' sz : Nat} {cs cs' : List Value} (hf : P.funcs[f]? = some fn) (hname : (fn.name == "runtime.NumGoroutine") = false) (hb : fn.body.isNone = true) (hn : Extern.findNext fn = none)
    (he : Extern.find fn = some (Extern.SlicesOverlaps.overlaps #[tS, tS] #[tR])) (hu : P.underlying tS = some (.slice e)) (hz : sizeB P e = some sz) (h1 : (r, .cells e₁ cs) ∈ L) (h2 : (r', .cells e₂ cs') ∈ L) (hne : r ≠ r') (u1 : isU8 P e₁ = false) (u2 : isU8 P e₂ = false) (hn1 : 1 ≤ n) (hn2 : 1 ≤ n') (hne' : cs' ≠ []) :
    ∀ h, Has h L → ExtH P f [.slice (some ⟨r, o, none⟩) n c, .slice (some ⟨r', o', none⟩) n' c'] (.bool false) h := by
  intro h H
  refine ⟨fn, _, hf, hname, hb, hn, he, fun ρ us w hus HR => ?_⟩
  have g1 : getRow h r = some (e₁, cs) := by unfold getRow; rw [H.get _ h1]
  have g2 : getRow h r' = some (e₂, cs') := by unfold getRow; rw [H.get _ h2]
  obtain ⟨l, C, f1, hl, hb1, hf1, a1, a2, _⟩ := HR.at_plain g1 u1
  obtain ⟨l', C', f2, hl', hb2, hf2, b1, b2, _⟩ := HR.at_plain g2 u2
  have hblk : l.block ≠ l'.block := fun hh => hne (HR.inj r r' _ _ l l' (getRow_eq g1) (getRow_eq g2) hl hl' hh (.inl rfl))
  cases hus with
  | cons p1 hus =>
  cases hus with
  | cons p2 hus =>
  cases hus
  cases p1 with
  | @slice _ _ _ _ k1 ad1 q1 q2 q3 =>
  cases p2 with
  | @slice _ _ _ _ k2 ad2 s1 s2 s3 =>
  obtain ⟨l₁, t1, t2, _⟩ := q3 (by omega)
  obtain ⟨l₂, t3, t4, _⟩ := s3 (by omega)
  rw [hl] at t1; rw [hl'] at t3
  simp only [Option.some.injEq] at t1 t3
  subst t1; subst t3; subst t2; subst t4
  have hsa : w.shape? l.block = some (e₁, C.size) := by simp [World.shape?, hb1]
  have hsb : w.shape? l'.block = some (e₂, C'.size) := by simp [World.shape?, hb2]
  have hk : C'.size ≠ 0 := by
    have : 0 < cs'.length := List.length_pos_iff.2 hne'
    omega
  refine ⟨.bool false, ?_, .bool _⟩
  exact Lib.run_overlaps_apart w tS tR e hu sz (run_size hz) _ _ _ _ _ _ hblk _ _ _ _ hsa hsb hk (frozen_off hb1 hf1) (frozen_off hb1 hf1)
end
end Go.Am

