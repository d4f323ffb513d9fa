/- The abstract machine: rows that are listed. -/
import Derived.Test.YtmdcfnnoeimakaaGreatDoorAmD

/- The abstract machine over rows that are listed by their names: rules for texts whose values, and rows, are not known as numbers. -/
namespace Go.Am
set_option linter.unusedVariables false

theorem Tr.set_some {α : Type} : ∀ (f : Nat) (t : Tr α) (n : Nat) (x : Option α), n < f → ∃ t', Tr.set f t n x = some t'
  | 0, _, _, _, h => by omega
  | f + 1, .nil, n, x, h => by
    rw [Tr.set_nil_eq]
    by_cases hn : n = 0
    · subst hn; exact ⟨_, rfl⟩
    · simp only [beq_false hn]
      by_cases h2 : n % 2 = 1
      · obtain ⟨l, e⟩ := Tr.set_some f .nil (n / 2) x (by omega)
        simp only [beq_true h2, e]; exact ⟨_, rfl⟩
      · obtain ⟨l, e⟩ := Tr.set_some f .nil (n / 2 - 1) x (by omega)
        simp only [beq_false h2, e]; exact ⟨_, rfl⟩
  | f + 1, .node l v r, n, x, h => by
    rw [Tr.set_node_eq]
    by_cases hn : n = 0
    · subst hn; exact ⟨_, rfl⟩
    · simp only [beq_false hn]
      by_cases h2 : n % 2 = 1
      · obtain ⟨l, e⟩ := Tr.set_some f l (n / 2) x (by omega)
        simp only [beq_true h2, e]; exact ⟨_, rfl⟩
      · obtain ⟨l, e⟩ := Tr.set_some f r (n / 2 - 1) x (by omega)
        simp only [beq_false h2, e]; exact ⟨_, rfl⟩
theorem AW.put_some (h : AW) (r : Nat) (x : Option ARow) : ∃ h', h.put r x = some h' := by
  obtain ⟨t, e⟩ := Tr.set_some (r + 1) h.rows r x (by omega)
  unfold AW.put; rw [e]; exact ⟨_, rfl⟩
theorem AW.new_some (h : AW) (x : ARow) : ∃ h', h.new x = some (h.next, h') := by
  obtain ⟨t, e⟩ := Tr.set_some (h.next + 1) h.rows h.next (some x) (by omega)
  have hf : ∀ n, fn n = some n := fun n => by cases n <;> rfl
  unfold AW.new; rw [e, hf]; exact ⟨_, rfl⟩

/-- Rows, by their names. -/
abbrev RL := List (Nat × ARow)

/-- These rows are there, each under a name of its own. -/
structure Has (h : AW) (L : RL) : Prop where
  get : ∀ p, p ∈ L → h.get p.1 = some p.2
  nd : (L.map (·.1)).Nodup
  lt : ∀ p, p ∈ L → p.1 < h.next
  step : 0 < h.step

section
variable {h h' : AW} {L L' : RL} {r : Nat} {x : ARow}
theorem Has.at {i : Nat} (H : Has h L) (e : L[i]? = some (r, x)) : h.get r = some x := H.get (r, x) (List.mem_of_getElem? e)
theorem Has.new (H : Has h L) (e : h.new x = some (r, h')) : Has h' ((r, x) :: L) := by
  obtain ⟨hr, hg, hn, hs⟩ := new_eq e
  have hp := H.step
  have hne : ∀ p, p ∈ L → p.1 ≠ r := fun p hp hh => by have := H.lt p hp; omega
  refine ⟨fun p hm => ?_, ?_, fun p hm => ?_, by rw [hs]; exact H.step⟩
  · rw [hg]
    rcases List.mem_cons.1 hm with rfl | hm
    · simp
    · rw [if_neg (hne p hm)]; exact H.get p hm
  · rw [List.map_cons, List.nodup_cons]
    refine ⟨fun hm => ?_, H.nd⟩
    obtain ⟨p, hp, he⟩ := List.mem_map.1 hm
    exact hne p hp he
  · rcases List.mem_cons.1 hm with rfl | hm
    · simp only; omega
    · have := H.lt p hm; omega
theorem nodup_same : ∀ {L : RL} {i : Nat} {r : Nat} {x : ARow}, (L.map (·.1)).Nodup → L[i]? = some (r, x) → ∀ {j : Nat} {y : ARow}, L[j]? = some (r, y) → i = j := by
  intro L i r x hn hi j y hj
  have h1 : (L.map (·.1))[i]? = some r := by simp [hi]
  have h2 : (L.map (·.1))[j]? = some r := by simp [hj]
  have hlt : i < (L.map (·.1)).length := (List.getElem?_eq_some_iff.1 h1).1
  exact (List.getElem?_inj hlt hn).1 (h1.trans h2.symm)
theorem Has.put {i : Nat} {y : ARow} (H : Has h L) (hi : L[i]? = some (r, y)) (e : h.put r (some x) = some h') : Has h' (L.set i (r, x)) := by
  obtain ⟨hg, hn, hs⟩ := put_eq e
  have hlt : i < L.length := (List.getElem?_eq_some_iff.1 hi).1
  have hmem : ∀ p, p ∈ L.set i (r, x) → p = (r, x) ∨ (p ∈ L ∧ p.1 ≠ r) := fun p hp => by
    obtain ⟨j, hj⟩ := List.mem_iff_getElem?.1 hp
    rw [List.getElem?_set] at hj
    by_cases hij : i = j
    · subst hij; rw [if_pos rfl, if_pos hlt] at hj; simp at hj; exact .inl hj.symm
    · rw [if_neg hij] at hj
      obtain ⟨r', y'⟩ := p
      exact .inr ⟨List.mem_of_getElem? hj, fun hh => by simp at hh; subst hh; exact hij (nodup_same H.nd hi hj)⟩
  have hmap : (L.set i (r, x)).map (·.1) = L.map (·.1) := by
    rw [List.map_set]
    apply List.ext_getElem?
    intro j
    rw [List.getElem?_set]
    by_cases hij : i = j
    · subst hij
      have hLi : L[i] = (r, y) := (List.getElem?_eq_some_iff.1 hi).2
      simp [hlt, hLi]
    · rw [if_neg hij]
  refine ⟨fun p hm => ?_, by rw [hmap]; exact H.nd, fun p hm => ?_, by rw [hs]; exact H.step⟩
  · rw [hg]
    rcases hmem p hm with rfl | ⟨hm, hne⟩
    · simp
    · rw [if_neg hne]; exact H.get p hm
  · rw [hn]
    rcases hmem p hm with rfl | ⟨hm, hne⟩
    · exact H.lt (r, y) (List.mem_of_getElem? hi)
    · exact H.lt p hm
theorem Has.sub (H : Has h L) (hs : ∀ p, p ∈ L' → p ∈ L) (hn : (L'.map (·.1)).Nodup) : Has h L' := ⟨fun p hp => H.get p (hs p hp), hn, fun p hp => H.lt p (hs p hp), H.step⟩
theorem Has.perm (H : Has h L) (hp : L.Perm L') : Has h L' := H.sub (fun p hm => hp.mem_iff.2 hm) ((hp.map _).nodup_iff.1 H.nd)
theorem Has.less (H : Has h L) (hs : L'.Sublist L) : Has h L' := H.sub (fun p hm => hs.subset hm) (H.nd.sublist (hs.map _))
theorem Has.drop {i : Nat} {y : ARow} (H : Has h L) (hi : L[i]? = some (r, y)) (e : h.put r none = some h') : Has h' (L.eraseIdx i) := by
  obtain ⟨hg, hn, hs⟩ := put_eq e
  have hsub : (L.eraseIdx i).Sublist L := List.eraseIdx_sublist ..
  have hmem : ∀ p, p ∈ L.eraseIdx i → p ∈ L ∧ p.1 ≠ r := fun p hp => by
    rw [List.mem_eraseIdx_iff_getElem?] at hp
    obtain ⟨j, hne, hj⟩ := hp
    obtain ⟨r', y'⟩ := p
    exact ⟨List.mem_of_getElem? hj, fun hh => by simp at hh; subst hh; exact hne (nodup_same H.nd hj hi)⟩
  exact ⟨fun p hm => by rw [hg, if_neg (hmem p hm).2]; exact H.get p (hmem p hm).1, H.nd.sublist (hsub.map _), fun p hm => by rw [hn]; exact H.lt p (hmem p hm).1, by rw [hs]; exact H.step⟩
end

section
variable {P : Program}

def OS (P : Program) (ops rest : List Oper) (a : Slots) (L : RL) (K : Slots → RL → Prop) : Prop :=
  ∀ h, Has h L → OQ P ops rest a h fun a' h' => ∃ L', K a' L' ∧ Has h' L'
def LSr (rd : Option Nat) (P : Program) (c : Code) (a : Slots) (L : RL) (R : AExit → Slots → RL → Prop) : Prop :=
  ∀ h, Has h L → LQ rd P c a h fun e a' h' => ∃ L', R e a' L' ∧ Has h' L'
abbrev LS (P : Program) (c : Code) (a : Slots) (L : RL) (R : AExit → Slots → RL → Prop) : Prop := LSr none P c a L R
def CS (P : Program) (f : FuncId) (args : List Value) (L : RL) (R : Value → RL → Prop) : Prop :=
  ∀ h, Has h L → CQ P f args h fun v h' => ∃ L', R v L' ∧ Has h' L'

section
variable {ops rest : List Oper} {o : Oper} {a a₁ a' : Slots} {L L' L₁ : RL} {v : Value} {K : Slots → RL → Prop}

/-- These rows, in some order, and perhaps others. -/
def Sub (L' L : RL) : Prop := ∃ M, L.Perm (L' ++ M)
theorem Sub.has {h : AW} (s : Sub L' L) (H : Has h L) : Has h L' := by
  obtain ⟨M, p⟩ := s
  exact (H.perm p).less (List.sublist_append_left _ _)

theorem OS.nil (k : K a L) : OS P ops [] a L K := fun h H => OQ.nil ⟨L, k, H⟩
theorem OS.sub (s : Sub L' L) (k : OS P ops rest a L' K) : OS P ops rest a L K := fun h H => k h (s.has H)
theorem OS.pure (hw : wantedB ops o a = true) (e : ∀ h, opB P a o h = some (.val v h)) (ep : putAt a o.dst v = some a₁) (k : OS P ops rest a₁ L K) : OS P ops (o :: rest) a L K :=
  fun h H => OQ.val hw (e h) ep (k h H)
theorem OS.read (hw : wantedB ops o a = true) (e : ∀ h, Has h L → opB P a o h = some (.val v h)) (ep : putAt a o.dst v = some a₁) (k : OS P ops rest a₁ L K) : OS P ops (o :: rest) a L K :=
  fun h H => OQ.val hw (e h H) ep (k h H)
theorem OS.write (hw : wantedB ops o a = true) (e : ∀ h, Has h L → ∃ h₁, opB P a o h = some (.val v h₁) ∧ Has h₁ L₁) (ep : putAt a o.dst v = some a₁) (k : OS P ops rest a₁ L₁ K) : OS P ops (o :: rest) a L K :=
  fun h H => let ⟨h₁, e₁, H₁⟩ := e h H; OQ.val hw e₁ ep (k h₁ H₁)
/-- What comes of it is known but for a name. -/
theorem OS.fresh {V : Nat → Value} {A : Nat → Slots} {M : Nat → RL} (hw : wantedB ops o a = true) (e : ∀ h, Has h L → ∃ r h₁, opB P a o h = some (.val (V r) h₁) ∧ Has h₁ (M r)) (ep : ∀ r, putAt a o.dst (V r) = some (A r)) (k : ∀ r, OS P ops rest (A r) (M r) K) : OS P ops (o :: rest) a L K :=
  fun h H => let ⟨r, h₁, e₁, H₁⟩ := e h H; OQ.val hw e₁ (ep r) (k r h₁ H₁)
theorem OS.skip (hw : skipB ops o a = true) (ep : putAt a o.dst undef = some a₁) (k : OS P ops rest a₁ L K) : OS P ops (o :: rest) a L K :=
  fun h H => OQ.skip hw ep (k h H)
theorem OS.call (hg : noGo P = true) {f : FuncId} {args : List Value} (hw : wantedB ops o a = true) (e : ∀ h, opB P a o h = some (.call f args)) (hc : CS P f args L fun v L₁ => ∃ a₁, putAt a o.dst v = some a₁ ∧ OS P ops rest a₁ L₁ K) : OS P ops (o :: rest) a L K :=
  fun h H => OQ.call hg hw (e h) ((hc h H).mono fun v h' ⟨L', ⟨a₁, ep, k⟩, H'⟩ => ⟨a₁, ep, k h' H'⟩)
end

/-- What comes behind the normal end, or the way out. -/
abbrev ThenS (next : Slots → RL → Prop) (R : AExit → Slots → RL → Prop) : AExit → Slots → RL → Prop
  | .normal, a, h => next a h
  | e, a, h => R e a h
abbrev WithinS (id : Nat) (R : AExit → Slots → RL → Prop) : AExit → Slots → RL → Prop
  | .exit id', a, h => if id' = id then R .normal a h else R (.exit id') a h
  | e, a, h => R e a h
abbrev ToldS (P : Program) (rs : List ResultVar) (R : Value → RL → Prop) : AExit → Slots → RL → Prop
  | .exit _, _, _ => False
  | _, a, L => ∃ vs, (∀ h, Has h L → resultsB P a h rs = some vs) ∧ R (tupleB vs) L

section
variable {rd : Option Nat} {x y : Code} {a : Slots} {L L' : RL} {R R' : AExit → Slots → RL → Prop}
theorem LS.mono (k : LSr rd P x a L R) (hr : ∀ e a h, R e a h → R' e a h) : LSr rd P x a L R' :=
  fun h H => (k h H).mono fun e a h ⟨L', r, H'⟩ => ⟨L', hr _ _ _ r, H'⟩
theorem LSr.mono (k : LSr rd P x a L R) (hr : ∀ e a h, R e a h → R' e a h) : LSr rd P x a L R' := LS.mono k hr
theorem LS.sub (s : Sub L' L) (k : LSr rd P x a L' R) : LSr rd P x a L R := fun h H => k h (s.has H)
theorem LS.skip (k : R .normal a L) : LSr rd P .skip a L R := fun h H => LQ.skip ⟨L, k, H⟩
theorem LS.ret (k : R .ret a L) : LSr rd P .ret a L R := fun h H => LQ.ret ⟨L, k, H⟩
theorem LS.exit {id : Nat} (k : R (.exit id) a L) : LSr rd P (.exit id) a L R := fun h H => LQ.exit ⟨L, k, H⟩
theorem LS.region {id : Nat} {ops : Array Oper} {l : List Oper} (hl : ops.toList = l) (k : OS P l l a L (R .normal)) : LSr rd P (.region id ops false) a L R := fun h H => LQ.region hl (k h H)
theorem LS.seq (hx : LSr rd P x a L (ThenS (fun a L => LSr rd P y a L R) R)) : LSr rd P (.seq x y) a L R :=
  fun h H => LQ.seq ((hx h H).mono fun e a h ⟨L', r, H'⟩ => by
    cases e with
    | normal => exact r h H'
    | exit id => exact ⟨L', r, H'⟩
    | ret => exact ⟨L', r, H'⟩)
theorem LS.cond {c : Operand} {b : Bool} (hc : aev a c = some (.bool b)) (hx : b = true → LSr rd P x a L R) (hy : b = false → LSr rd P y a L R) : LSr rd P (.cond c x y) a L R :=
  fun h H => LQ.cond hc (fun e => hx e h H) (fun e => hy e h H)
theorem LS.block {id : Nat} (hx : LSr rd P x a L (WithinS id R)) : LSr rd P (.block id x) a L R :=
  fun h H => LQ.block ((hx h H).mono fun e a h ⟨L', r, H'⟩ => by
    cases e with
    | normal => exact ⟨L', r, H'⟩
    | ret => exact ⟨L', r, H'⟩
    | exit id' =>
      simp only [Within, WithinS] at r ⊢
      split
      · rename_i he; rw [if_pos he] at r; exact ⟨L', r, H'⟩
      · rename_i he; rw [if_neg he] at r; exact ⟨L', r, H'⟩)
/-- A loop: what holds at each round's head, and a number that sinks. -/
theorem LS.loop (I : Nat → Slots → RL → Prop) {n : Nat} (h₀ : I n a L) (round : ∀ n a L, I n a L → LSr rd P x a L (ThenS (fun a' L' => ∃ m, m < n ∧ I m a' L') R)) : LSr rd P (.loop x) a L R :=
  fun h H => LQ.loop (fun n a h => ∃ L, I n a L ∧ Has h L) ⟨L, h₀, H⟩ fun n a h ⟨L, i, H⟩ => (round n a L i h H).mono fun e a h ⟨L', r, H'⟩ => by
    cases e with
    | normal => obtain ⟨m, hm, i'⟩ := r; exact ⟨m, hm, L', i', H'⟩
    | exit id => exact ⟨L', r, H'⟩
    | ret => exact ⟨L', r, H'⟩
end

section
variable {f : FuncId} {args : List Value} {L L' : RL} {R R' : Value → RL → Prop}
theorem CS.mono (c : CS P f args L R) (hr : ∀ v L', R v L' → R' v L') : CS P f args L R' := fun h H => (c h H).mono fun v h' ⟨L', r, H'⟩ => ⟨L', hr _ _ r, H'⟩
theorem CS.sub (s : Sub L' L) (k : CS P f args L' R) : CS P f args L R := fun h H => k h (s.has H)
theorem CS.mk {fn : Func} {c : Code} {a : Slots} {rs : List ResultVar} (hf : P.funcs[f]? = some fn) (hb : fn.body = some c) (hrs : fn.results.toList = rs) (ha : join args (undefs (fn.ntmps - args.length)) = some a)
    (hl : LS P c a L (ToldS P rs R)) : CS P f args L R :=
  fun h H => CQ.mk hf hb hrs ha ((hl h H).mono fun e a h ⟨L', r, H'⟩ => by
    cases e with
    | exit id => exact r.elim
    | normal => obtain ⟨vs, hv, r⟩ := r; exact ⟨vs, hv h H', L', r, H'⟩
    | ret => obtain ⟨vs, hv, r⟩ := r; exact ⟨vs, hv h H', L', r, H'⟩)
end

section
variable {a : Slots} {L : RL} {R : Value → RL → Prop} {rs : List ResultVar} {vs : List Value}
theorem told_ret (e : ∀ h, Has h L → resultsB P a h rs = some vs) (k : R (tupleB vs) L) : ToldS P rs R .ret a L := ⟨vs, e, k⟩
theorem told_end (e : ∀ h, Has h L → resultsB P a h rs = some vs) (k : R (tupleB vs) L) : ToldS P rs R .normal a L := ⟨vs, e, k⟩
end

/-! ### A call that needs no rows: what the machine tells of it over none -/
theorem VRel.flat_eq {ρ : Env} {v u : Value} (h : VRel ρ v u) (hf : flat v = true) : u = v := by
  cases h <;> first | rfl | (simp [flat] at hf; done)
theorem LRel.flat_eq {ρ : Env} : ∀ {vs us : List Value}, LRel ρ vs us → allFlat vs = true → us = vs
  | _, _, .nil, _ => rfl
  | _, _, .cons a b, h => by
    simp only [allFlat] at h
    split at h
    · rw [VRel.flat_eq a (by assumption), LRel.flat_eq b h]
    · cases h
theorem CS.closed (hg : noGo P = true) (hmix : P.follows .mixedOrders = true) {known : Known} (hk : Sound P known) {fuel depth : Nat} {f : FuncId} {args : List Value} {v : Value} {h₁ : AW} {L : RL}
    (ha : allFlat args = true) (hv : flat v = true) (e : callB P known fuel depth f args AW.empty = some (v, h₁)) : CS P f args L fun v' L' => v' = v ∧ L' = L := by
  intro h H
  have s := callB_sound hg hmix hk fuel depth f args AW.empty v h₁ e
  refine ⟨s.1, fun ρ us w hus HR => ?_⟩
  have hus' := hus.flat_eq ha
  subst hus'
  refine (s.2 (fun _ => none) us w (.of_allFlat ha) (empty_rel w)).mono ?_
  rintro en w' ⟨u, ρ', rfl, hvu, H', T⟩
  have hu := hvu.flat_eq hv
  subst hu
  have keep : ∀ k, k < w.heap.size → w'.heap[k]? = w.heap[k]? := fun k hk => T.keep k hk fun r row l hr => (by cases hr)
  refine ⟨u, h, u, ρ, rfl, ⟨L, ⟨rfl, rfl⟩, H⟩, .of_flat hv, ⟨fun r row hr => ?_, HR.inj, HR.fresh, HR.step⟩, ⟨Env.le_refl _, T.os, T.tape, T.output, T.size, fun r row l hr ho hl _ => ⟨r, row, l, hr, ho, hl, rfl⟩, fun k hk _ => keep k hk, fun _ _ e => .inl e, ⟨0, by simp⟩, rfl⟩⟩
  obtain ⟨l, hl, hr'⟩ := HR.loc r row hr
  exact ⟨l, hl, hr'.keep (Env.le_refl _) (keep _ hr'.lt)⟩
end
end Go.Am

/- The abstract machine: regions that draw their order, step by step: the operations are gone through in a row that the order allows; what turns rows stands in one row; all else is known to tell the same wherever it may be put off to. -/
namespace Go.Am
set_option linter.unusedVariables false
section
variable {P : Program}

/-- Does the operation make an empty list? -/
def voidB (P : Program) (o : Oper) : Bool :=
  match o.op with
  | .buildSlice t 0 ⟨[]⟩ => match P.underlying t with
    | some (.slice e) => match sizeB P e, zerosB P e with
      | some n, some zs => Nat.beq zs.length n
      | _, _ => false
    | _ => false
  | _ => false
theorem voidB_op {o : Oper} (e : voidB P o = true) : ∃ t el n zs, o.op = .buildSlice t 0 #[] ∧ P.underlying t = some (.slice el) ∧ sizeB P el = some n ∧ zerosB P el = some zs ∧ zs.length = n := by
  unfold voidB at e
  split at e
  case h_2 => cases e
  rename_i t ho
  split at e
  case h_2 => cases e
  rename_i el hu
  split at e
  case h_2 => cases e
  rename_i n zs hn hz
  exact ⟨t, el, n, zs, ho, hu, hn, hz, of_beq e⟩
/-- An empty list lies nowhere that matters: none of the rows turns. -/
theorem void_done {ρ : Env} {h : AW} {w : World} {t el : TypeId} {n r off : Nat} {zs : List Value} (H : HRel P ρ h w) (hu : P.underlying t = some (.slice el)) (hn : sizeB P el = some n) :
    Done P ρ h w (Instr.buildSlice t 0 #[]) (.slice (some ⟨r, off, none⟩) 0 0) h := by
  have old : ∀ k, k < w.heap.size → (w.alloc (.cells #[] el)).heap[k]? = w.heap[k]? := fun k hk => by
    show (w.heap.push _)[k]? = _
    rw [Array.getElem?_push, if_neg (by omega)]
  refine ⟨.slice (some ⟨w.heap.size, 0, none⟩) 0 0, w.alloc (.cells #[] el), ρ, ?_, .slice (Nat.le_refl _) (fun _ => rfl) (fun h => absurd rfl h), ⟨fun m row hm => ?_, H.inj, H.fresh, H.step⟩,
    ⟨Env.le_refl _, rfl, rfl, rfl, ?_, fun r row l hr ho hl _ => ⟨r, row, l, hr, ho, hl, rfl⟩, fun k hk _ => old k hk, fun _ _ e => .inl e, ⟨0, by simp⟩, rfl⟩⟩
  · have hno : ¬ (0 * n > 2 ^ 24) := by omega
    have h0 : 0 * n = 0 := by omega
    simp only [Instr.buildSlice, Sem.run_bind, run_underlying hu, Result.andThen_ok, run_size hn]
    rw [if_neg hno, if_pos h0]
    have hf : Instr.fill (fun i => some (i * n, n)) (Array.map (fun x => (#[] : Array Value)[x % (#[] : Array Value).size]!) (Array.range 0)) [] = some #[] := by
      have hr : (Array.map (fun x => (#[] : Array Value)[x % (#[] : Array Value).size]!) (Array.range 0)) = #[] := by apply Array.eq_empty_of_size_eq_zero; simp
      rw [hr]; simp [Instr.fill]
    simp only [Sem.run_bind, Sem.run_pure, Result.andThen_ok, h0, hf, newRow, run_newObj]
    rfl
  · obtain ⟨l', hl', hr'⟩ := H.loc m row hm
    exact ⟨l', hl', hr'.keep (Env.le_refl _) (old _ hr'.lt)⟩
  · show w.heap.size ≤ (w.heap.push _).size
    simp

/-- An operation that leaves the rows as they are, and tells v. -/
def StepQ (P : Program) (a : Slots) (o : Oper) (h : AW) (v : Value) : Prop :=
  opB P a o h = some (.val v h) ∨ (∃ f args, opB P a o h = some (.call f args) ∧ CQ P f args h fun v' h' => v' = v ∧ h' = h) ∨ (voidB P o = true ∧ ∃ r off, v = .slice (some ⟨r, off, none⟩) 0 0)
/-- An operation that turns the rows. -/
def StepW (P : Program) (a : Slots) (o : Oper) (h : AW) (R : Value → AW → Prop) : Prop :=
  (∃ v h', opB P a o h = some (.val v h') ∧ R v h') ∨ ∃ f args, opB P a o h = some (.call f args) ∧ CQ P f args h R

/-- What was told: by which operation, over which slots. -/
abbrev Dn := List (Nat × Slots × Value)

/-- The rest of the row: numbers of operations; does one turn the rows? -/
def OD (P : Program) (ops : List Oper) (ms : List Nat) (K : Slots → AW → Prop) : List (Nat × Bool) → Dn → Slots → AW → Prop
  | [], _, a, h => K a h
  | (i, wr) :: sched, dn, a, h => ∃ o, ops[i]? = some o ∧
    ((skipB ops o a = true ∧ ∃ a₁, putAt a o.dst undef = some a₁ ∧ OD P ops ms K sched dn a₁ h) ∨
     (wantedB ops o a = true ∧ wr = false ∧ ∃ v a₁, StepQ P a o h v ∧ putAt a o.dst v = some a₁ ∧ OD P ops ms K sched ((i, a, v) :: dn) a₁ h) ∨
     (wantedB ops o a = true ∧ wr = true ∧ StepW P a o h fun v h₁ => ∃ a₁, putAt a o.dst v = some a₁ ∧
        (∀ e, e ∈ dn → ahead ms i e.1 = false → ∀ p, ops[e.1]? = some p → StepQ P e.2.1 p h₁ e.2.2) ∧ OD P ops ms K sched dn a₁ h₁))

/-- Is the row one that the order allows, and does what turns the rows stand in it ahead of just what must follow it? -/
def rowOkB (ms : List Nat) : List (Nat × Bool) → List (Nat × Bool) → Bool
  | _, [] => true
  | pre, (i, wr) :: rest =>
    match pre.all (fun p => (!p.2 || ahead ms i p.1) && !(ahead ms p.1 i)) with
    | true => rowOkB ms ((i, wr) :: pre) rest
    | false => false
def coversB (n : Nat) (s : List Nat) : Bool := (List.range n).all fun i => hasNat s i
def drawOk2 (ops : List Oper) (ms : List Nat) (sched : List (Nat × Bool)) : Bool :=
  ((onceB (dstsB ops) && backB ops 0) && allSorted ms ops ops 0) && (rowOkB ms [] sched && (coversB ops.length (sched.map (·.1)) && onceB (sched.map (·.1))))

theorem rowOk_spec {ms : List Nat} : ∀ {rest pre : List (Nat × Bool)}, rowOkB ms pre rest = true → ∀ s x t, rest = s ++ x :: t → ∀ p, (p ∈ pre ∨ p ∈ s) → (p.2 = true → ahead ms x.1 p.1 = true) ∧ ahead ms p.1 x.1 = false
  | [], pre, _, s, x, t, hs, _, _ => by simp at hs
  | (i, wr) :: rest, pre, h, s, x, t, hs, p, hp => by
    simp only [rowOkB] at h
    split at h
    case h_2 => cases h
    rename_i hall
    cases s with
    | nil =>
      simp at hs
      obtain ⟨rfl, rfl⟩ := hs
      simp at hp
      have := List.all_eq_true.1 hall p hp
      simp only [Bool.and_eq_true, Bool.or_eq_true, Bool.not_eq_true'] at this
      exact ⟨fun hh => (this.1.resolve_left (by simp [hh])), this.2⟩
    | cons y s =>
      simp at hs
      obtain ⟨rfl, hs⟩ := hs
      refine rowOk_spec h s x t hs p ?_
      rcases hp with hp | hp
      · exact .inl (List.mem_cons_of_mem _ hp)
      · rcases List.mem_cons.1 hp with rfl | hp
        · exact .inl (by simp)
        · exact .inr hp

/-- What holds at a moment: of the row, pre has been gone through (some of it may have been put off), post not; post is empty, or begins by what turns the rows. -/
structure Mom (P : Program) (ops : List Oper) (ms : List Nat) (K : Slots → AW → Prop) (sched : List (Nat × Bool)) (a₀ : Slots) (S : Nat → Prop) (h : AW) (pre post : List (Nat × Bool)) (dn : Dn) (a : Slots) (val : Nat → Value) : Prop where
  row : sched = pre ++ post
  od : OD P ops ms K post dn a h
  len : a.length = a₀.length
  slot : ∀ j o d, (∃ b, (j, b) ∈ pre) → ops[j]? = some o → o.dst = some d → a[d]? = some (val j)
  slot0 : ∀ t, (∀ j o, (∃ b, (j, b) ∈ pre) → ops[j]? = some o → o.dst ≠ some t) → a[t]? = a₀[t]?
  out : ∀ j b, (j, b) ∈ post → ¬ S j
  pend : ∀ j b o, (j, b) ∈ pre → ¬ S j → ops[j]? = some o → ∃ aj, aj.length = a₀.length ∧
    (∀ t, t ∈ looksB ops o → (∀ q oq, ops[q]? = some oq → oq.dst = some t → ahead ms j q = true → aj[t]? = some (val q)) ∧ ((∀ q oq, ops[q]? = some oq → oq.dst = some t → ahead ms j q = false) → aj[t]? = a₀[t]?)) ∧
    ((skipB ops o aj = true ∧ val j = undef) ∨ (wantedB ops o aj = true ∧ (j, aj, val j) ∈ dn ∧ StepQ P aj o h (val j)))

/-- The order's own laws. -/
structure Ord (ops : List Oper) (ms : List Nat) (sched : List (Nat × Bool)) : Prop where
  once : Once ops
  back : ∀ i o, ops[i]? = some o → ∀ j, ahead ms i j = true → j < i
  sorted : ∀ i o j q d, ops[i]? = some o → ops[j]? = some q → q.dst = some d → d ∈ looksB ops o → j ≠ i → (j < i → ahead ms i j = true) ∧ (i < j → ahead ms j i = true)
  row : ∀ s x t, sched = s ++ x :: t → ∀ p, p ∈ s → (p.2 = true → ahead ms x.1 p.1 = true) ∧ ahead ms p.1 x.1 = false
  all : ∀ i o, ops[i]? = some o → ∃ b, (i, b) ∈ sched
  nd : (sched.map (·.1)).Nodup

theorem nodup_once : ∀ {l : List Nat}, onceB l = true → l.Nodup
  | [], _ => List.nodup_nil
  | x :: xs, h => by
    simp only [onceB] at h
    split at h
    · cases h
    · rename_i hn
      refine List.nodup_cons.2 ⟨fun hm => ?_, nodup_once h⟩
      rw [hasNat_mem.2 hm] at hn; cases hn
theorem ord_of {ops : List Oper} {ms : List Nat} {sched : List (Nat × Bool)} (hm : masksB ops [] = some ms) (hok : drawOk2 ops ms sched = true) : Ord ops ms sched ∧ backB ops 0 = true := by
  simp only [drawOk2, Bool.and_eq_true] at hok
  obtain ⟨⟨⟨hon, hback⟩, hsort⟩, hrow, hcov, hnd⟩ := hok
  refine ⟨⟨once_spec hon, fun i o ho => closed_ahead hm hback (S := fun j => j < i) (fun j q hj hq e he hbe => by have := backB_spec hback j q hq e he hbe; omega) i o ho (fun e he hbe => by have := backB_spec hback i o ho e he hbe; omega), fun i o j q d hi hj hd hl hne => ?_, fun s x t hs p hp => rowOk_spec hrow s x t hs p (.inr hp), fun i o hi => ?_, nodup_once hnd⟩, hback⟩
  · have := allSorted_spec hsort i o hi j q d hj hd hl (by omega)
    simpa using this
  · have := List.all_eq_true.1 hcov i (by simpa using (List.getElem?_eq_some_iff.1 hi).1)
    obtain ⟨p, hp, he⟩ := List.mem_map.1 (hasNat_mem.1 this)
    exact ⟨p.2, by subst he; exact hp⟩

section
variable {ops : List Oper} {ms : List Nat} {K : Slots → AW → Prop} {sched : List (Nat × Bool)} {a₀ : Slots} {S : Nat → Prop} {h : AW} {post : List (Nat × Bool)}

/-- One more has been gone through, but may have been put off. -/
theorem Mom.step (hO : Ord ops ms sched) {i : Nat} {wr : Bool} {o : Oper} {pre : List (Nat × Bool)} {dn dn' : Dn} {a a₁ : Slots} {val : Nat → Value} {v : Value} {h' : AW} {S' : Nat → Prop} (M : Mom P ops ms K sched a₀ S h pre ((i, wr) :: post) dn a val)
    (hi : ops[i]? = some o) (ep : putAt a o.dst v = some a₁) (od : OD P ops ms K post dn' a₁ h') (hdn : ∀ e, e ∈ dn → e ∈ dn') (hS : ∀ j, j ≠ i → (S' j ↔ S j))
    (hold : ∀ j aj u p, ¬ S j → (j, aj, u) ∈ dn → ops[j]? = some p → StepQ P aj p h u → StepQ P aj p h' u)
    (here : ¬ S' i → (skipB ops o a = true ∧ v = undef) ∨ (wantedB ops o a = true ∧ (i, a, v) ∈ dn' ∧ StepQ P a o h' v)) :
    Mom P ops ms K sched a₀ S' h' (pre ++ [(i, wr)]) post dn' a₁ fun j => if j = i then v else val j := by
  obtain ⟨hal, had, hag⟩ := putAt_get ep
  have hrow := M.row
  have hnd := hO.nd
  rw [hrow, List.map_append, List.map_cons, List.nodup_append] at hnd
  obtain ⟨nd1, nd2, nd3⟩ := hnd
  have hpre : ∀ j b, (j, b) ∈ pre → j ≠ i := fun j b hm hh => by
    subst hh
    exact nd3 j (List.mem_map.2 ⟨_, hm, rfl⟩) j (by simp) rfl
  have hpost : ∀ j b, (j, b) ∈ post → j ≠ i := fun j b hm hh => by
    subst hh
    exact (List.nodup_cons.1 nd2).1 (List.mem_map.2 ⟨_, hm, rfl⟩)
  have hrow_i := hO.row pre (i, wr) post hrow
  refine ⟨by rw [hrow]; simp, od, hal.trans M.len, ?_, ?_, ?_, ?_⟩
  · rintro j p d ⟨b, hm⟩ hj hd
    rw [hag]
    by_cases hji : j = i
    · subst hji; rw [hi] at hj; simp at hj; subst hj; simp [hd]
    · rw [if_neg hji]
      have hm' : (j, b) ∈ pre := by simpa [hji] using hm
      rw [if_neg (fun hh => hji (hO.once j i p o d hj hi hd hh))]
      exact M.slot j p d ⟨b, hm'⟩ hj hd
  · intro t ht
    rw [hag, if_neg (ht i o ⟨wr, by simp⟩ hi)]
    exact M.slot0 t fun j p ⟨b, hm⟩ hj => ht j p ⟨b, by simp [hm]⟩ hj
  · intro j b hm hs
    have hne := hpost j b hm
    exact M.out j b (by simp [hm]) ((hS j hne).1 hs)
  · intro j b p hm hs hj
    by_cases hji : j = i
    · subst hji
      rw [hi] at hj; simp at hj; subst hj
      have hlt : ∀ q, ahead ms j q = true → q ≠ j := fun q hq hh => by subst hh; exact absurd (hO.back q o hi q hq) (Nat.lt_irrefl q)
      refine ⟨a, M.len, fun t ht => ⟨fun q oq hq hd hah => ?_, fun hno => ?_⟩, ?_⟩
      · rw [if_neg (hlt q hah)]
        obtain ⟨bq, hmq⟩ := hO.all q oq hq
        rw [hrow] at hmq
        rcases List.mem_append.1 hmq with hmq | hmq
        · exact M.slot q oq t ⟨bq, hmq⟩ hq hd
        · exfalso
          rcases List.mem_cons.1 hmq with hmq | hmq
          · simp at hmq; exact hlt q hah hmq.1
          · obtain ⟨s1, s2, rfl⟩ := List.append_of_mem hmq
            have := (hO.row (pre ++ (j, wr) :: s1) (q, bq) s2 (by rw [hrow]; simp) (j, wr) (by simp)).2
            simp only at this
            rw [hah] at this; cases this
      · exact M.slot0 t fun q oq ⟨bq, hmq⟩ hq hd => by
          have hne := hpre q bq hmq
          obtain ⟨s1, s2⟩ := hO.sorted j o q oq t hi hq hd ht hne
          rcases Nat.lt_or_gt_of_ne hne with hlt' | hgt
          · rw [hno q oq hq hd] at s1; exact absurd (s1 hlt') (by simp)
          · have := (hrow_i (q, bq) hmq).2
            simp only at this
            rw [s2 hgt] at this; cases this
      · rw [if_pos rfl]; exact here hs
    · have hm' : (j, b) ∈ pre := by simpa [hji] using hm
      obtain ⟨aj, hl, hlook, hor⟩ := M.pend j b p hm' (fun hh => hs ((hS j hji).2 hh)) hj
      refine ⟨aj, hl, fun t ht => ⟨fun q oq hq hd hah => ?_, (hlook t ht).2⟩, ?_⟩
      · have hqi : q ≠ i := fun hh => by
          subst hh
          have := (hrow_i (j, b) hm').2
          simp only at this
          rw [hah] at this; cases this
        rw [if_neg hqi]
        exact (hlook t ht).1 q oq hq hd hah
      · rw [if_neg hji]
        rcases hor with hor | ⟨h1, h2, h3⟩
        · exact .inl hor
        · exact .inr ⟨h1, hdn _ h2, hold j aj _ p (fun hh => hs ((hS j hji).2 hh)) h2 hj h3⟩

/-- On to what turns the rows next. -/
theorem Mom.on (hO : Ord ops ms sched) : ∀ {post pre : List (Nat × Bool)} {dn : Dn} {a : Slots} {val : Nat → Value}, Mom P ops ms K sched a₀ S h pre post dn a val →
    ∃ pre' post' dn' a' val', Mom P ops ms K sched a₀ S h pre' post' dn' a' val' ∧ (∀ j, S j → val' j = val j) ∧ (post' = [] ∨ ∃ i o rest, post' = (i, true) :: rest ∧ ops[i]? = some o ∧ wantedB ops o a' = true ∧
      StepW P a' o h fun v h₁ => ∃ a₁, putAt a' o.dst v = some a₁ ∧ (∀ e, e ∈ dn' → ahead ms i e.1 = false → ∀ p, ops[e.1]? = some p → StepQ P e.2.1 p h₁ e.2.2) ∧ OD P ops ms K rest dn' a₁ h₁) := by
  intro post
  induction post with
  | nil => intro pre dn a val M; exact ⟨pre, [], dn, a, val, M, fun _ _ => rfl, .inl rfl⟩
  | cons x post ih =>
    intro pre dn a val M
    obtain ⟨i, wr⟩ := x
    have od := M.od
    simp only [OD] at od
    obtain ⟨o, hi, hor⟩ := od
    have hnS : ∀ j, S j → j ≠ i := fun j hj hh => by subst hh; exact M.out j wr (by simp) hj
    rcases hor with ⟨hw, a₁, ep, od⟩ | ⟨hw, hwr, v, a₁, sq, ep, od⟩ | ⟨hw, hwr, sw⟩
    · obtain ⟨pre', post', dn', a', val', M', hv, hp⟩ := ih (M.step hO hi ep od (fun _ he => he) (fun _ _ => Iff.rfl) (fun _ _ _ _ _ _ _ hh => hh) fun _ => .inl ⟨hw, rfl⟩)
      exact ⟨pre', post', dn', a', val', M', fun j hj => by rw [hv j hj, if_neg (hnS j hj)], hp⟩
    · obtain ⟨pre', post', dn', a', val', M', hv, hp⟩ := ih (M.step hO hi ep od (fun _ he => List.mem_cons_of_mem _ he) (fun _ _ => Iff.rfl) (fun _ _ _ _ _ _ _ hh => hh) fun _ => .inr ⟨hw, by simp, sq⟩)
      exact ⟨pre', post', dn', a', val', M', fun j hj => by rw [hv j hj, if_neg (hnS j hj)], hp⟩
    · subst hwr
      exact ⟨pre, (i, true) :: post, dn, a, val, M, fun _ _ => rfl, .inr ⟨i, o, post, rfl, hi, hw, sw⟩⟩
theorem Mom.more {S' : Nat → Prop} {pre : List (Nat × Bool)} {dn : Dn} {a : Slots} {val : Nat → Value} (M : Mom P ops ms K sched a₀ S h pre post dn a val) (h1 : ∀ j, S j → S' j) (h2 : ∀ j b, (j, b) ∈ post → ¬ S' j) : Mom P ops ms K sched a₀ S' h pre post dn a val :=
  ⟨M.row, M.od, M.len, M.slot, M.slot0, h2, fun j b o hm hs => M.pend j b o hm fun hh => hs (h1 j hh)⟩
end

theorem draw_any2 (hg : noGo P = true) {ro : Option Nat} {ds : List Deferred} {opsA : Array Oper} {ms : List Nat} {sched : List (Nat × Bool)} {a₀ : Slots} {K : Slots → AW → Prop} {ρ₀ : Env} {h₀ : AW} {w₀ : World} {Q : Exit → Act → World → Prop}
    (hm : masksB opsA.toList [] = some ms) (hO : Ord opsA.toList ms sched) (hback : backB opsA.toList 0 = true)
    (hQ : ∀ a' h' ρ' act' w', K a' h' → LRel ρ' a' act'.tmps.toList → act'.defers = ds → HRel P ρ' h' w' → Turn ρ₀ h₀ w₀ ρ' h' w' → Q .normal act' w') :
    ∀ (fuel : Nat) (listed : Array Bool) (act : Act) (w : World) (ρ : Env) (h : AW) (pre post : List (Nat × Bool)) (dn : Dn) (a : Slots) (val : Nat → Value), listed.size = opsA.size →
      (∀ i o, lst listed i = true → opsA.toList[i]? = some o → ∀ e ∈ o.after.toList, Region.binds .any e = true → lst listed e.on = true) →
      Mom P opsA.toList ms K sched a₀ (fun j => lst listed j = true) h pre post dn a val → HRel P ρ h w → Turn ρ₀ h₀ w₀ ρ h w → act.tmps.size = a₀.length → act.defers = ds →
      (∀ j o d, lst listed j = true → opsA.toList[j]? = some o → o.dst = some d → ∃ u, act.tmps[d]? = some u ∧ VRel ρ (val j) u) →
      (∀ t x, (∀ j (o : Oper), lst listed j = true → opsA.toList[j]? = some o → o.dst ≠ some t) → a₀[t]? = some x → ∃ u, act.tmps[t]? = some u ∧ VRel ρ x u) →
      ((List.range opsA.size).filter fun i => !listed.getD i true).length ≤ fuel → wpAnyIn (wideAt ro) 0 P .any opsA Q fuel listed act w := by
  have hgetD : ∀ (listed : Array Bool) (i : Nat), i < listed.size → listed.getD i true = lst listed i := fun listed i hi => by
    unfold lst
    rw [Array.getD_eq_getD_getElem?, Array.getD_eq_getD_getElem?, Array.getElem?_eq_getElem hi]; rfl
  -- when all are listed
  have final : ∀ (listed : Array Bool) (act : Act) (w : World) (ρ : Env) (h : AW) (pre post : List (Nat × Bool)) (dn : Dn) (a : Slots) (val : Nat → Value), (∀ i, i < opsA.size → lst listed i = true) →
      Mom P opsA.toList ms K sched a₀ (fun j => lst listed j = true) h pre post dn a val → HRel P ρ h w → Turn ρ₀ h₀ w₀ ρ h w → act.tmps.size = a₀.length → act.defers = ds →
      (∀ j o d, lst listed j = true → opsA.toList[j]? = some o → o.dst = some d → ∃ u, act.tmps[d]? = some u ∧ VRel ρ (val j) u) →
      (∀ t x, (∀ j (o : Oper), lst listed j = true → opsA.toList[j]? = some o → o.dst ≠ some t) → a₀[t]? = some x → ∃ u, act.tmps[t]? = some u ∧ VRel ρ x u) → Q .normal act w := by
    intro listed act w ρ h pre post dn a val hall M HR T hsz hd hs1 hs0
    have hpost : post = [] := by
      cases post with
      | nil => rfl
      | cons x post =>
        obtain ⟨i, b⟩ := x
        have hod := M.od
        simp only [OD] at hod
        obtain ⟨o, hi, _⟩ := hod
        have hlt := (List.getElem?_eq_some_iff.1 hi).1
        exact absurd (hall i (by simpa using hlt)) (M.out i b (by simp))
    subst hpost
    have hk := M.od
    simp only [OD] at hk
    refine hQ a h ρ act w hk (LRel.of_get (by have := M.len; simp; omega) fun t x hx => ?_) hd HR T
    rw [Array.getElem?_toList]
    by_cases hex : ∃ (j : Nat) (o : Oper), opsA.toList[j]? = some o ∧ o.dst = some t
    · obtain ⟨j, o, hj, hdj⟩ := hex
      obtain ⟨b, hb⟩ := hO.all j o hj
      rw [M.row, List.append_nil] at hb
      have := M.slot j o t ⟨b, hb⟩ hj hdj
      rw [this] at hx; simp at hx; subst hx
      exact hs1 j o t (hall j (by simpa using (List.getElem?_eq_some_iff.1 hj).1)) hj hdj
    · rw [M.slot0 t fun j o _ hj hdj => hex ⟨j, o, hj, hdj⟩] at hx
      exact hs0 t x (fun j o _ hj hdj => hex ⟨j, o, hj, hdj⟩) hx
  intro fuel
  induction fuel with
  | zero =>
    intro listed act w ρ h pre post dn a val hsize hclosed M HR T hsz hd hs1 hs0 hfuel
    have hnil : ((List.range opsA.size).filter fun i => !listed.getD i true) = [] := List.eq_nil_of_length_eq_zero (by omega)
    have hall : ∀ i, i < opsA.size → lst listed i = true := fun i hi => by
      have := List.filter_eq_nil_iff.1 hnil i (by simpa using hi)
      rw [hgetD listed i (by omega)] at this
      simpa using this
    refine ⟨?_, final listed act w ρ h pre post dn a val hall M HR T hsz hd hs1 hs0⟩
    unfold Region.ready
    rw [List.filter_eq_nil_iff]
    intro i hi
    rw [hgetD listed i (by simp at hi; omega), hall i (by simpa using hi)]
    simp
  | succ fuel ih =>
    intro listed act w ρ h pre post dn a val hsize hclosed M HR T hsz hd hs1 hs0 hfuel
    refine ⟨fun hready => ?_, fun i hi => ?_⟩
    · have hall : ∀ i, i < opsA.size → lst listed i = true := by
        intro i
        induction i using Nat.strongRecOn with
        | _ i ihi =>
          intro hi
          cases hb : lst listed i with
          | true => rfl
          | false =>
            have hin : i ∈ Region.ready .any opsA listed := by
              unfold Region.ready
              rw [List.mem_filter]
              refine ⟨by simpa using hi, ?_⟩
              rw [hgetD listed i (by omega), hb]
              have ho : opsA[i]? = some opsA[i] := Array.getElem?_eq_getElem hi
              simp only [ho, Option.map_some, Option.getD_some, Bool.not_false, Bool.true_and]
              rw [Array.all_eq_true']
              intro e he
              cases hbe : Region.binds .any e with
              | false => simp
              | true =>
              have hlt := backB_spec hback i opsA[i] (by rw [Array.getElem?_toList]; exact ho) e (by simpa using he) hbe
              have := ihi e.on (by omega) (by omega)
              unfold lst at this
              rw [this]; simp
            rw [hready] at hin
            simp at hin
      exact final listed act w ρ h pre post dn a val hall M HR T hsz hd hs1 hs0
    · obtain ⟨pre', post', dn', a', val', M', hveq, hhead⟩ := M.on hO
      have hs1' : ∀ j o d, lst listed j = true → opsA.toList[j]? = some o → o.dst = some d → ∃ u, act.tmps[d]? = some u ∧ VRel ρ (val' j) u := fun j o d hj ho hd' => by
        rw [hveq j hj]; exact hs1 j o d hj ho hd'
      clear M hs1 hveq
      -- the operation i stands next
      unfold Region.ready at hi
      rw [List.mem_filter] at hi
      obtain ⟨hin, hi⟩ := hi
      have hin : i < opsA.size := by simpa using hin
      have ho : opsA[i]? = some opsA[i] := Array.getElem?_eq_getElem hin
      generalize opsA[i] = o at ho
      rw [hgetD listed i (by omega), ho] at hi
      simp only [Option.map_some, Option.getD_some, Bool.and_eq_true, Bool.not_eq_true'] at hi
      obtain ⟨hnot, hpre⟩ := hi
      rw [Array.all_eq_true'] at hpre
      have hoL : opsA.toList[i]? = some o := by rw [Array.getElem?_toList]; exact ho
      have hpreds : ∀ e ∈ o.after.toList, Region.binds .any e = true → lst listed e.on = true := fun e he hb => by
        have := hpre e (by simpa using he)
        rw [hb] at this
        simpa [lst] using this
      have hclose := closed_ahead hm hback (S := fun j => lst listed j = true) hclosed
      have hbefore : ∀ j, ahead ms i j = true → lst listed j = true := hclose i o hoL hpreds
      have hafter : ∀ j q, opsA.toList[j]? = some q → lst listed j = true → ahead ms j i = false := fun j q hq hj => by
        cases hb : ahead ms j i with
        | false => rfl
        | true =>
          have := hclose j q hq (hclosed j q hj hq) i hb
          rw [hnot] at this; cases this
      -- what stands in the slots
      let A : Slots := (List.range a₀.length).map fun t => open Classical in if hx : ∃ j o, lst listed j = true ∧ opsA.toList[j]? = some o ∧ o.dst = some t then val' (Classical.choose hx) else (a₀[t]?).getD undef
      have hAl : A.length = a₀.length := by simp [A]
      have hA : ∀ t, t < a₀.length → A[t]? = some (open Classical in if hx : ∃ j o, lst listed j = true ∧ opsA.toList[j]? = some o ∧ o.dst = some t then val' (Classical.choose hx) else (a₀[t]?).getD undef) := fun t ht => by
        simp only [A, List.getElem?_map]
        rw [List.getElem?_range ht]; rfl
      have hA1 : ∀ j o t, lst listed j = true → opsA.toList[j]? = some o → o.dst = some t → t < a₀.length → A[t]? = some (val' j) := fun j o t hj hjo hjd ht => by
        rw [hA t ht]
        have hx : ∃ j o, lst listed j = true ∧ opsA.toList[j]? = some o ∧ o.dst = some t := ⟨j, o, hj, hjo, hjd⟩
        rw [dif_pos hx]
        obtain ⟨p, h1, h2, h3⟩ := Classical.choose_spec hx
        rw [hO.once _ j p o t h2 hjo h3 hjd]
      have hA0 : ∀ t, (∀ j (o : Oper), lst listed j = true → opsA.toList[j]? = some o → o.dst ≠ some t) → A[t]? = a₀[t]? := fun t hno => by
        by_cases ht : t < a₀.length
        · rw [hA t ht, dif_neg (fun ⟨j, o, h1, h2, h3⟩ => hno j o h1 h2 h3), List.getElem?_eq_getElem ht]; rfl
        · rw [List.getElem?_eq_none (by rw [hAl]; exact Nat.le_of_not_lt ht), List.getElem?_eq_none (Nat.le_of_not_lt ht)]
      have hrelA : LRel ρ A act.tmps.toList := LRel.of_get (by simp; omega) fun t x hx => by
        rw [Array.getElem?_toList]
        have ht : t < a₀.length := by have := (List.getElem?_eq_some_iff.1 hx).1; omega
        by_cases hex : ∃ j o, lst listed j = true ∧ opsA.toList[j]? = some o ∧ o.dst = some t
        · obtain ⟨j, p, h1, h2, h3⟩ := hex
          rw [hA1 j p t h1 h2 h3 ht] at hx
          simp at hx; subst hx
          exact hs1' j p t h1 h2 h3
        · have hno : ∀ j (o : Oper), lst listed j = true → opsA.toList[j]? = some o → o.dst ≠ some t := fun j o h1 h2 h3 => hex ⟨j, o, h1, h2, h3⟩
          rw [hA0 t hno] at hx
          exact hs0 t x hno hx
      -- no other one writes what it looks at
      have hlone : ∀ t, t ∈ looksB opsA.toList o → (∀ q oq, opsA.toList[q]? = some oq → oq.dst = some t → ahead ms i q = false) → ∀ j (p : Oper), lst listed j = true → opsA.toList[j]? = some p → p.dst ≠ some t := fun t ht hno j p hj hjp hjd => by
        have hne : j ≠ i := fun hh => by subst hh; rw [hnot] at hj; cases hj
        obtain ⟨s1, s2⟩ := hO.sorted i o j p t hoL hjp hjd ht hne
        rcases Nat.lt_or_gt_of_ne hne with hlt | hgt
        · rw [hno j p hjp hjd] at s1; exact absurd (s1 hlt) (by simp)
        · rw [hafter j p hjp hj] at s2; exact absurd (s2 hgt) (by simp)
      -- what holds behind it
      have next : ∀ (u v : Value) (w' : World) (ρ' : Env) (h' : AW) (pre' post' : List (Nat × Bool)) (dn' : Dn) (a' : Slots) (val : Nat → Value), ρ.le ρ' → VRel ρ' v u → HRel P ρ' h' w' → Turn ρ h w ρ' h' w' → val i = v → (∀ j, lst listed j = true → val j = val' j) →
          Mom P opsA.toList ms K sched a₀ (fun j => lst (listed.setIfInBounds i true) j = true) h' pre' post' dn' a' val → wpAnyIn (wideAt ro) 0 P .any opsA Q fuel (listed.setIfInBounds i true) (act.put o.dst u) w' := by
        intro u v w' ρ' h' pre' post' dn' a' val le hv HR' T' hvi hvj M
        have hput : ∀ t, (act.put o.dst u).tmps[t]? = if o.dst = some t then (if t < act.tmps.size then some u else none) else act.tmps[t]? := fun t => by
          cases hd' : o.dst with
          | none => simp [Act.put]
          | some d =>
            simp only [Act.put, Array.getElem?_setIfInBounds]
            by_cases hdt : d = t
            · subst hdt; simp
            · rw [if_neg hdt, if_neg (fun hh => hdt (by simpa using hh))]
        refine ih _ _ w' ρ' h' pre' post' dn' a' val (by simpa using hsize) ?_ M HR' (T.trans T') ?_ (by rw [put_defers]; exact hd) ?_ ?_ ?_
        · intro j q hj hq e he hb
          rw [lst_set (by omega)] at hj ⊢
          by_cases hji : j = i
          · subst hji
            rw [hoL] at hq; simp at hq; subst hq
            rw [hpreds e he hb]; simp
          · rw [if_neg hji] at hj
            rw [hclosed j q hj hq e he hb]; simp
        · rw [← hsz]
          cases o.dst <;> simp [Act.put]
        · intro j p d hj hp hpd
          rw [lst_set (by omega)] at hj
          by_cases hji : j = i
          · subst hji
            rw [hoL] at hp; simp at hp; subst hp
            have hlt : d < act.tmps.size := by
              obtain ⟨b, hb⟩ := hO.all j o hoL
              have hpp : ∃ b, (j, b) ∈ pre' := by
                rw [M.row] at hb
                rcases List.mem_append.1 hb with hb | hb
                · exact ⟨b, hb⟩
                · exact absurd (by rw [lst_set (by omega)]; simp) (M.out j b hb)
              have h1 := (List.getElem?_eq_some_iff.1 (M.slot j o d hpp hoL hpd)).1
              rw [M.len, ← hsz] at h1
              exact h1
            exact ⟨u, by rw [hput, if_pos hpd, if_pos hlt], by rw [hvi]; exact hv⟩
          · rw [if_neg hji] at hj
            obtain ⟨x, hx, hr⟩ := hs1' j p d hj hp hpd
            refine ⟨x, ?_, by rw [hvj j hj]; exact hr.mono le⟩
            rw [hput, if_neg (fun hh => hji (hO.once j i p o d hp hoL hpd hh))]
            exact hx
        · intro t x hno hx
          have hdt : o.dst ≠ some t := hno i o (by rw [lst_set (by omega)]; simp) hoL
          obtain ⟨y, hy, hr⟩ := hs0 t x (fun j p hj hp => hno j p (by rw [lst_set (by omega), hj]; simp) hp) hx
          exact ⟨y, by rw [hput, if_neg hdt]; exact hy, hr.mono le⟩
        · have := cnt_lt (l := List.range opsA.size) (p := fun j => !listed.getD j true) (q := fun j => !(listed.setIfInBounds i true).getD j true) (fun x hx => by
            rw [Array.getD_eq_getD_getElem?, Array.getElem?_setIfInBounds] at hx
            rw [Array.getD_eq_getD_getElem?]
            by_cases hxi : i = x
            · subst hxi; rw [if_pos rfl, if_pos (by omega)] at hx; simp at hx
            · rwa [if_neg hxi] at hx) ⟨i, by simpa using hin, by rw [hgetD listed i (by omega), hnot]; rfl, by
              rw [Array.getD_eq_getD_getElem?, Array.getElem?_setIfInBounds, if_pos rfl, if_pos (by omega)]; rfl⟩
          omega
      have hmono : ∀ j, lst listed j = true → lst (listed.setIfInBounds i true) j = true := fun j hj => by rw [lst_set (by omega), hj]; simp
      obtain ⟨b, hb⟩ := hO.all i o hoL
      have hrow := M'.row
      rw [hrow] at hb
      unfold wpOpIn
      rw [ho]
      simp only
      rcases List.mem_append.1 hb with hb | hb
      · -- it has been put off till now
        obtain ⟨aj, hl, hlook, hor⟩ := M'.pend i b o hb (by rw [hnot]; simp) hoL
        have hsame : ∀ t, t ∈ looksB opsA.toList o → A[t]? = aj[t]? := fun t ht => by
          by_cases hex : ∃ q oq, opsA.toList[q]? = some oq ∧ oq.dst = some t ∧ ahead ms i q = true
          · obtain ⟨q, oq, h1, h2, h3⟩ := hex
            have e1 := (hlook t ht).1 q oq h1 h2 h3
            have hlt : t < a₀.length := by have := (List.getElem?_eq_some_iff.1 e1).1; omega
            rw [e1]
            exact hA1 q oq t (hbefore q h3) h1 h2 hlt
          · have hno : ∀ q oq, opsA.toList[q]? = some oq → oq.dst = some t → ahead ms i q = false := fun q oq h1 h2 => by
              cases hb' : ahead ms i q with
              | false => rfl
              | true => exact absurd ⟨q, oq, h1, h2, hb'⟩ hex
            rw [(hlook t ht).2 hno]
            exact hA0 t (hlone t ht hno)
        have M2 : Mom P opsA.toList ms K sched a₀ (fun j => lst (listed.setIfInBounds i true) j = true) h pre' post' dn' a' val' := M'.more hmono fun j c hjp hj => by
          rw [lst_set (by omega)] at hj
          by_cases hji : j = i
          · subst hji
            have hnd := hO.nd
            rw [hrow, List.map_append, List.nodup_append] at hnd
            exact hnd.2.2 j (List.mem_map.2 ⟨_, hb, rfl⟩) j (List.mem_map.2 ⟨_, hjp, rfl⟩) rfl
          · rw [if_neg hji] at hj; exact M'.out j c hjp hj
        have hopA : opB P A o h = opB P aj o h := opB_congr (aev_congr hsame)
        rcases hor with ⟨hw, hv⟩ | ⟨hw, _, hq⟩
        · obtain ⟨hw, hsure⟩ := skip_iff.1 hw
          rw [← wantedB_eq hrelA (by rw [sureB_congr hsame]; exact hsure), wantedB_congr hsame, hw, if_neg (by simp)]
          exact ⟨fun _ _ => trivial, next undef undef w ρ h pre' post' dn' a' val' (Env.le_refl _) undef_rel HR (Turn.refl _ _ _) hv (fun _ _ => rfl) M2⟩
        · rw [← wantedB_eq hrelA (by rw [sureB_congr hsame]; exact sure_of_wanted hw), wantedB_congr hsame, hw, if_pos rfl]
          rcases hq with hop | ⟨f, args, hop, hcq⟩ | ⟨hvo, r₀, off₀, hvv⟩
          · obtain ⟨n, u, w', ρ', hrun, hn, hv, HR', T'⟩ := opB_sound hrelA HR (by rw [hopA]; exact hop)
            have := next u _ w' ρ' h pre' post' dn' a' val' T'.le hv HR' T' rfl (fun _ _ => rfl) M2
            refine ⟨fun _ _ => trivial, ?_⟩
            rw [Oper.semAt_eq _ _ _ (opB_noDefer hop), hrun]
            rcases hn with rfl | ⟨rfl, rfl⟩ <;> exact this
          · obtain ⟨us, hus, hrun⟩ := opB_sound hrelA HR (e := by rw [hopA]; exact hop)
            obtain ⟨⟨fn, c, hf, hbd⟩, hcalls⟩ := hcq
            refine ⟨fun _ _ => trivial, ?_⟩
            rw [Oper.semAt_eq _ _ _ (opB_noDefer hop), hrun, run_callFunc hg hf hbd]
            refine ⟨fun hh => (by cases hh), callsIn_at.2 ((hcalls ρ us w hus HR).mono ?_)⟩
            rintro en w₁ ⟨v, h₁, u, ρ₁, rfl, ⟨rfl, rfl⟩, hv, H₁, T₁⟩
            exact next u _ w₁ ρ₁ h₁ pre' post' dn' a' val' T₁.le hv H₁ T₁ rfl (fun _ _ => rfl) M2
          · obtain ⟨t₀, el, n₀, zs, hoo, hu, hn, _, _⟩ := voidB_op hvo
            obtain ⟨u, w', ρ', hrun, hv, HR', T'⟩ := void_done (r := r₀) (off := off₀) (zs := zs) HR hu hn
            rw [← hvv] at hv
            have := next u _ w' ρ' h pre' post' dn' a' val' T'.le hv HR' T' rfl (fun _ _ => rfl) M2
            refine ⟨fun _ _ => trivial, ?_⟩
            rw [Oper.semAt_eq _ _ _ (fun c hc => by rw [hoo] at hc; cases hc)]
            simp only [execOp, hoo, List.map_toArray, List.map_nil, Sem.run_bind, hrun, Result.andThen_ok, Sem.run_pure]
            exact this
      · -- it turns the rows
        rcases hhead with rfl | ⟨i', o', rest, rfl, hi', hw, sw⟩
        · simp at hb
        have hii : i = i' := by
          rcases List.mem_cons.1 hb with hb | hb
          · simp at hb; exact hb.1
          · exfalso
            obtain ⟨s1, s2, rfl⟩ := List.append_of_mem hb
            have := (hO.row (pre' ++ (i', true) :: s1) (i, b) s2 (by rw [hrow]; simp) (i', true) (by simp)).1 rfl
            exact M'.out i' true (by simp) (hbefore i' this)
        subst hii
        rw [hoL] at hi'; simp at hi'; subst hi'
        have hrow_i := hO.row pre' (i, true) rest hrow
        have hsame : ∀ t, t ∈ looksB opsA.toList o → A[t]? = a'[t]? := fun t ht => by
          by_cases hex : ∃ q oq, opsA.toList[q]? = some oq ∧ oq.dst = some t ∧ ahead ms i q = true
          · obtain ⟨q, oq, h1, h2, h3⟩ := hex
            obtain ⟨bq, hbq⟩ := hO.all q oq h1
            rw [hrow] at hbq
            have hqp : (q, bq) ∈ pre' := by
              rcases List.mem_append.1 hbq with hbq | hbq
              · exact hbq
              · exact absurd (hbefore q h3) (M'.out q bq hbq)
            have e1 := M'.slot q oq t ⟨bq, hqp⟩ h1 h2
            have hlt : t < a₀.length := by have := (List.getElem?_eq_some_iff.1 e1).1; have := M'.len; omega
            rw [e1]
            exact hA1 q oq t (hbefore q h3) h1 h2 hlt
          · have hno : ∀ q oq, opsA.toList[q]? = some oq → oq.dst = some t → ahead ms i q = false := fun q oq h1 h2 => by
              cases hb' : ahead ms i q with
              | false => rfl
              | true => exact absurd ⟨q, oq, h1, h2, hb'⟩ hex
            rw [hA0 t (hlone t ht hno)]
            refine (M'.slot0 t fun j p ⟨bj, hbj⟩ hjp hjd => ?_).symm
            have hne : j ≠ i := fun hh => by
              subst hh
              have hnd := hO.nd
              rw [hrow, List.map_append, List.nodup_append] at hnd
              exact hnd.2.2 j (List.mem_map.2 ⟨_, hbj, rfl⟩) j (by simp) rfl
            obtain ⟨s1, s2⟩ := hO.sorted i o j p t hoL hjp hjd ht hne
            rcases Nat.lt_or_gt_of_ne hne with hlt | hgt
            · rw [hno j p hjp hjd] at s1; exact absurd (s1 hlt) (by simp)
            · have := (hrow_i (j, bj) hbj).2
              simp only at this
              rw [s2 hgt] at this; cases this
        have hopA : opB P A o h = opB P a' o h := opB_congr (aev_congr hsame)
        rw [← wantedB_eq hrelA (by rw [sureB_congr hsame]; exact sure_of_wanted hw), wantedB_congr hsame, hw, if_pos rfl]
        have go : ∀ v h₁ u w' ρ', (∃ a₁, putAt a' o.dst v = some a₁ ∧ (∀ e, e ∈ dn' → ahead ms i e.1 = false → ∀ p, opsA.toList[e.1]? = some p → StepQ P e.2.1 p h₁ e.2.2) ∧ OD P opsA.toList ms K rest dn' a₁ h₁) →
            VRel ρ' v u → HRel P ρ' h₁ w' → Turn ρ h w ρ' h₁ w' → wpAnyIn (wideAt ro) 0 P .any opsA Q fuel (listed.setIfInBounds i true) (act.put o.dst u) w' := by
          rintro v h₁ u w' ρ' ⟨a₁, ep, hobl, hod⟩ hv HR' T'
          have M2 := M'.step (S' := fun j => lst (listed.setIfInBounds i true) j = true) hO hoL ep hod (fun _ he => he) (fun j hj => by rw [lst_set (by omega), if_neg hj]) (fun j aj u p hs hm hp _ => hobl _ hm (by
            cases hb' : ahead ms i j with
            | false => rfl
            | true => exact absurd (hbefore j hb') hs) p hp) (fun hs => absurd (by rw [lst_set (by omega)]; simp) hs)
          refine next u v w' ρ' h₁ _ _ _ _ _ T'.le hv HR' T' ?_ ?_ M2
          · simp
          · intro j hj
            have hne : j ≠ i := fun hh => by subst hh; rw [hnot] at hj; cases hj
            simp [hne]
        rcases sw with ⟨v, h₁, hop, hR⟩ | ⟨f, args, hop, hcq⟩
        · obtain ⟨n, u, w', ρ', hrun, hn, hv, HR', T'⟩ := opB_sound hrelA HR (by rw [hopA]; exact hop)
          have := go v h₁ u w' ρ' hR hv HR' T'
          refine ⟨fun _ _ => trivial, ?_⟩
          rw [Oper.semAt_eq _ _ _ (opB_noDefer hop), hrun]
          rcases hn with rfl | ⟨rfl, rfl⟩ <;> exact this
        · obtain ⟨us, hus, hrun⟩ := opB_sound hrelA HR (e := by rw [hopA]; exact hop)
          obtain ⟨⟨fn, c, hf, hbd⟩, hcalls⟩ := hcq
          refine ⟨fun _ _ => trivial, ?_⟩
          rw [Oper.semAt_eq _ _ _ (opB_noDefer hop), hrun, run_callFunc hg hf hbd]
          refine ⟨fun hh => (by cases hh), callsIn_at.2 ((hcalls ρ us w hus HR).mono ?_)⟩
          rintro en w₁ ⟨v, h₁, u, ρ₁, rfl, hR, hv, H₁, T₁⟩
          exact go v h₁ u w₁ ρ₁ hR hv H₁ T₁

theorem LQ.drawn2 {rd : Option Nat} (hg : noGo P = true) (hmix : P.follows .mixedOrders = true) {id : Nat} {opsA : Array Oper} {ops : List Oper} {ms : List Nat} {sched : List (Nat × Bool)} {a : Slots} {h : AW} {R : AExit → Slots → AW → Prop}
    (hl : opsA.toList = ops) (hm : masksB ops [] = some ms) (hok : drawOk2 ops ms sched = true) (k : OD P ops ms (R .normal) sched [] a h) : LQ rd P (.region id opsA true) a h R := by
  subst hl
  intro n₀ ro ρ act w Q _ hr hd H hQ
  obtain ⟨hO, hback⟩ := ord_of hm hok
  refine wpIn_region_any hmix ?_
  have hempty : ∀ j, lst (Array.replicate opsA.size false) j = false := fun j => by
    unfold lst
    rw [Array.getD_eq_getD_getElem?, Array.getElem?_replicate]
    split <;> rfl
  have hw : ({ w with drawn := w.drawn + 1 } : World).heap = w.heap := rfl
  refine draw_any2 (ρ₀ := ρ) (h₀ := h) (w₀ := w) hg hm hO hback (ds := act.defers) (fun a' h' ρ' act' w' k' b c d t => hQ .normal a' h' ρ' act' w' k' b (by rw [c]; exact hd.turn t) d t) opsA.size _ act _ ρ h [] sched [] a (fun _ => undef) (by simp) (fun i o hi => by rw [hempty] at hi; cases hi)
    ⟨by simp, k, rfl, fun j o d ⟨b, hb⟩ => (by simp at hb), fun t _ => rfl, fun j b _ => by rw [hempty]; simp, fun j b o hb => by simp at hb⟩ (H.draw hw) (Turn.draw hw rfl rfl rfl (Turn.refl _ _ _)) ?_ rfl (fun j o d hj => by rw [hempty] at hj; cases hj) ?_ ?_
  · have := hr.length; simpa using this.symm
  · intro t x _ hx
    obtain ⟨u, hu', hv⟩ := hr.get hx
    rw [Array.getElem?_toList] at hu'
    exact ⟨u, hu', hv⟩
  · exact Nat.le_trans (List.length_filter_le _ _) (by simp)
end
end Go.Am

/- The abstract machine over listed rows: what each operation does to them. -/
namespace Go.Am
set_option linter.unusedVariables false

def rdRow : ARow → Option (List Value)
  | .cells _ cs => some cs
  | .ro cs => some cs
  | _ => none
/-- The row at a place of the list is another one. -/
def setL : RL → Nat → Nat × ARow → Option RL
  | [], _, _ => none
  | _ :: xs, 0, x => some (x :: xs)
  | y :: xs, n + 1, x => match setL xs n x with
    | some ys => some (y :: ys)
    | none => none
theorem setL_eq : ∀ {L L' : RL} {i : Nat} {x : Nat × ARow}, setL L i x = some L' → L' = L.set i x
  | [], _, _, _, h => by simp [setL] at h
  | y :: xs, L', 0, x, h => by simp [setL] at h; subst h; rfl
  | y :: xs, L', n + 1, x, h => by
    simp only [setL] at h
    split at h
    · rename_i ys e
      simp at h; subst h
      rw [setL_eq e]; rfl
    · cases h
/-- The row at a place of the list is not named any more. -/
def dropL : RL → Nat → Option RL
  | [], _ => none
  | _ :: xs, 0 => some xs
  | y :: xs, n + 1 => match dropL xs n with
    | some ys => some (y :: ys)
    | none => none
theorem dropL_eq : ∀ {L L' : RL} {i : Nat}, dropL L i = some L' → L' = L.eraseIdx i
  | [], _, _, h => by simp [dropL] at h
  | y :: xs, L', 0, h => by simp [dropL] at h; subst h; rfl
  | y :: xs, L', n + 1, h => by
    simp only [dropL] at h
    split at h
    · rename_i ys e
      simp at h; subst h
      rw [dropL_eq e]; rfl
    · cases h
/-- The row at a place of the list, and the others. -/
def pullL : RL → Nat → Option ((Nat × ARow) × RL)
  | [], _ => none
  | x :: xs, 0 => some (x, xs)
  | y :: xs, n + 1 => match pullL xs n with
    | some (x, ys) => some (x, y :: ys)
    | none => none
theorem pullL_perm : ∀ {L M : RL} {i : Nat} {x : Nat × ARow}, pullL L i = some (x, M) → L.Perm (x :: M)
  | [], _, _, _, h => by simp [pullL] at h
  | y :: xs, M, 0, x, h => by simp [pullL] at h; obtain ⟨rfl, rfl⟩ := h; exact .refl _
  | y :: xs, M, n + 1, x, h => by
    simp only [pullL] at h
    split at h
    · rename_i z ys e
      simp at h
      obtain ⟨rfl, rfl⟩ := h
      exact ((pullL_perm e).cons y).trans (.swap ..)
    · cases h
/-- Rows pulled ahead, one by one (the last one pulled stands first). -/
def pullsL : RL → List Nat → Option RL
  | L, [] => some L
  | L, i :: is => match pullL L i with
    | some (x, M) => pullsL (x :: M) is
    | none => none
theorem pullsL_perm : ∀ {is : List Nat} {L M : RL}, pullsL L is = some M → L.Perm M
  | [], L, M, h => by simp [pullsL] at h; subst h; exact .refl _
  | i :: is, L, M, h => by
    simp only [pullsL] at h
    split at h
    · rename_i x N e
      exact (pullL_perm e).trans (pullsL_perm h)
    · cases h
theorem Sub.pulls {L M : RL} (is : List Nat) (h : pullsL L is = some M) : Sub M L := ⟨[], by simpa using pullsL_perm h⟩
theorem erase_perm : ∀ {L : RL} {i : Nat}, i < L.length → ∃ x, L.Perm (L.eraseIdx i ++ [x])
  | [], i, h => by simp at h
  | x :: xs, 0, _ => ⟨x, by simpa using List.perm_append_comm (l₁ := [x]) (l₂ := xs)⟩
  | x :: xs, i + 1, h => by
    obtain ⟨y, hy⟩ := erase_perm (L := xs) (i := i) (by simpa using h)
    exact ⟨y, by simpa using hy.cons x⟩
theorem Sub.drop {L M : RL} (i : Nat) (h : dropL L i = some M) : Sub M L := by
  have := dropL_eq h
  subst this
  by_cases hi : i < L.length
  · obtain ⟨x, hx⟩ := erase_perm hi; exact ⟨[x], hx⟩
  · exact ⟨[], by simp [List.eraseIdx_of_length_le (Nat.le_of_not_lt hi)]⟩

section
variable {P : Program} {a a₁ : Slots} {o : Oper} {L L₁ : RL} {h : AW}

theorem Has.read {i r : Nat} {row : ARow} {cs : List Value} (H : Has h L) (hL : L[i]? = some (r, row)) (hc : rdRow row = some cs) : readRow h r = some cs := by
  have := H.at hL
  unfold readRow
  cases row <;> simp only [rdRow, Option.some.injEq, reduceCtorEq] at hc <;> subst hc <;> rw [this]
theorem Has.row {i r : Nat} {e : TypeId} {cs : List Value} (H : Has h L) (hL : L[i]? = some (r, .cells e cs)) : getRow h r = some (e, cs) := by
  unfold getRow; rw [H.at hL]

/-! ### Reading -/
theorem e_load (i : Nat) {t : TypeId} {x : Operand} {r off : Nat} {row : ARow} {cs : List Value} {v : Value} (ho : o.op = .load t x) (hx : aev a x = some (.pointer (some ⟨r, off, none⟩))) (hL : L[i]? = some (r, row)) (hc : rdRow row = some cs) (hv : partB P t cs off = some v) :
    ∀ h, Has h L → opB P a o h = some (.val v h) := by
  intro h H
  simp only [opB, ho, hx, loadB, H.read hL hc, hv, ret]
theorem e_index {t e : TypeId} {x i : Operand} {r off len cap sz j : Nat} {k : IntKind} (ho : o.op = .indexAddr t x i) (hx : aev a x = some (.slice (some ⟨r, off, none⟩) len cap)) (hi : aev a i = some (.int k (j : Int))) (ht : P.underlying t = some (.slice e)) (hs : sizeB P e = some sz) (hj : j < len) :
    ∀ h, opB P a o h = some (.val (.pointer (some ⟨r, off + j * sz, none⟩)) h) := by
  intro h
  have hb : inB (j : Int) len = true := inB_iff.2 ⟨by omega, by omega⟩
  simp only [opB, ho, hx, hi, indexAddrB, ht, hb, hs, ret, Int.toNat_natCast]
theorem e_slice (i : Nat) {t e : TypeId} {x : Operand} {lo hi : Option Operand} {lo' hi' : Option Value} {r off len sz l u : Nat} {cs : List Value} (ho : o.op = .slice t x lo hi none) (hx : aev a x = some (.slice (some ⟨r, off, none⟩) len openCap))
    (hlo : optEv a lo = some lo') (hhi : optEv a hi = some hi') (bl : boundB lo' 0 = some l) (bu : boundB hi' len = some u) (ht : P.underlying t = some (.slice e)) (hs : sizeB P e = some sz) (hu : u ≤ len) (hl : l ≤ u) (hL : L[i]? = some (r, .cells e cs)) :
    ∀ h, Has h L → opB P a o h = some (.val (.slice (some ⟨r, off + l * sz, none⟩) (u - l) openCap) h) := by
  intro h H
  have h1 : Nat.ble u (farB len openCap) = true := Nat.ble_eq_true_of_le (by unfold farB; rw [beq_true rfl]; exact hu)
  have h2 : Nat.ble l u = true := Nat.ble_eq_true_of_le hl
  have h3 : rowOk h e (some ⟨r, off, none⟩) openCap = true := by
    unfold rowOk; rw [beq_true rfl]; simp only [H.row hL, beq_true rfl]
  have hc : Nat.beq openCap openCap = true := beq_true rfl
  have hm : optEv a none = some none := rfl
  simp only [opB, ho, hx, hlo, hhi, hm, sliceB, ht, bu, bl, hs, h1, h2, h3, Bool.true_and, moved, hc, ret]
theorem bound_nat {k : IntKind} {n d : Nat} : boundB (some (.int k (n : Int))) d = some n := by
  have : ileB 0 (n : Int) = true := ileB_iff.2 (by omega)
  simp only [boundB, this, Int.toNat_natCast]

/-- The cells of bytes. -/
def byteCells (bs : List UInt8) : List Value := bs.map fun b => .int .u8 b.toNat
theorem byteCells_len (bs : List UInt8) : (byteCells bs).length = bs.length := by simp [byteCells]
theorem byteCells_append (x y : List UInt8) : byteCells (x ++ y) = byteCells x ++ byteCells y := by simp [byteCells]
theorem bytesOfB_cells : ∀ (bs : List UInt8), bytesOfB (byteCells bs) = some bs
  | [] => rfl
  | b :: bs => by
    have ih := bytesOfB_cells bs
    simp only [byteCells, List.map_cons, bytesOfB] at ih ⊢
    rw [ih]; simp
theorem cellsOfB_bytes : ∀ (bs : List UInt8), cellsOfB bs = some (byteCells bs)
  | [] => rfl
  | b :: bs => by
    have ih := cellsOfB_bytes bs
    simp only [byteCells, List.map_cons, cellsOfB] at ih ⊢
    rw [ih]
theorem takeB_of : ∀ {xs : List Value} {n : Nat}, n ≤ xs.length → takeB xs n = some (xs.take n)
  | xs, 0, _ => by cases xs <;> rfl
  | [], n + 1, h => by simp at h
  | x :: xs, n + 1, h => by simp only [takeB, takeB_of (xs := xs) (n := n) (by simpa using h)]; rfl
theorem cut_of : ∀ {xs : List Value} {off n : Nat}, off + n ≤ xs.length → cut xs off n = some ((xs.drop off).take n)
  | xs, 0, n, h => by
    have : cut xs 0 n = takeB xs n := by cases xs <;> rfl
    rw [this, takeB_of (by omega)]; rfl
  | [], off + 1, n, h => by simp at h
  | x :: xs, off + 1, n, h => by simp only [cut]; rw [cut_of (by simp at h; omega)]; rfl
theorem cut_all {xs : List Value} {n : Nat} (h : xs.length = n) : cut xs 0 n = some xs := by
  rw [cut_of (by omega)]; simp [← h]
theorem cut_bytes {bs : List UInt8} {off n : Nat} (h : off + n ≤ bs.length) : cut (byteCells bs) off n = some (byteCells ((bs.drop off).take n)) := by
  rw [cut_of (by simpa [byteCells] using h)]
  simp [byteCells, List.map_take, List.map_drop]
theorem lay_of {xs vs : List Value} : ∀ {off : Nat}, off + vs.length ≤ xs.length → lay xs off vs = some (xs.take off ++ (vs ++ xs.drop (off + vs.length))) := by
  have hover : ∀ (vs xs : List Value), vs.length ≤ xs.length → over xs vs = some (vs ++ xs.drop vs.length) := by
    intro vs
    induction vs with
    | nil => intro xs _; cases xs <;> rfl
    | cons v vs ih =>
      intro xs h
      cases xs with
      | nil => simp at h
      | cons x xs => simp only [over, ih xs (by simpa using h)]; simp
  intro off
  induction xs generalizing off with
  | nil =>
    intro h
    simp at h
    obtain ⟨rfl, hv⟩ := h
    subst hv; rfl
  | cons x xs ih =>
    intro h
    cases off with
    | zero =>
      simp only [lay]
      rw [hover vs (x :: xs) (by simpa using h)]; simp
    | succ off =>
      simp only [lay]
      rw [ih (by simp at h; omega)]
      simp [Nat.add_right_comm]
theorem lay_one {xs : List Value} {off : Nat} {v : Value} (h : off < xs.length) : lay xs off [v] = some (xs.set off v) := by
  rw [lay_of (by simp; omega)]
  congr 1
  apply List.ext_getElem?
  intro j
  rw [List.getElem?_set]
  have htl : (xs.take off).length = off := by simp; omega
  by_cases h1 : j < off
  · rw [List.getElem?_append_left (by omega), List.getElem?_take, if_pos h1, if_neg (by omega)]
  · by_cases h2 : off = j
    · subst h2
      rw [List.getElem?_append_right (by omega), htl, if_pos rfl, if_pos h]; simp
    · rw [List.getElem?_append_right (by omega), htl, if_neg h2]
      have : j - off = (j - off - 1) + 1 := by omega
      rw [this]
      simp
      congr 1; omega

theorem e_text (i : Nat) {src dst e : TypeId} {x : Operand} {r off len cap : Nat} {row : ARow} {cs vs : List Value} {bs : List UInt8} (ho : o.op = .convert src dst x) (hx : aev a x = some (.slice (some ⟨r, off, none⟩) len cap)) (hs : P.underlying src = some (.slice e)) (hd : P.underlying dst = some .string) (hu : isU8 P e = true)
    (hL : L[i]? = some (r, row)) (hc : rdRow row = some cs) (hcut : cut cs off len = some vs) (hb : bytesOfB vs = some bs) : ∀ h, Has h L → opB P a o h = some (.val (.string ⟨⟨bs⟩⟩) h) := by
  intro h H
  simp only [opB, ho, hx, convB, hs, hd, hu]
  cases hl : Nat.beq len 0 with
  | true =>
    have := of_beq hl
    subst this
    have hvs : vs = [] := by have := (cut_eq hcut).2.2.1; exact List.eq_nil_of_length_eq_zero this
    subst hvs
    simp [bytesOfB] at hb; subst hb; rfl
  | false => simp only [H.read hL hc, hcut, hb, ret2]
theorem e_text0 {src dst e : TypeId} {x : Operand} (ho : o.op = .convert src dst x) (hx : aev a x = some (.slice none 0 0)) (hs : P.underlying src = some (.slice e)) (hd : P.underlying dst = some .string) (hu : isU8 P e = true) : ∀ h, opB P a o h = some (.val (.string ⟨⟨[]⟩⟩) h) := by
  intro h
  simp only [opB, ho, hx, convB, hs, hd, hu, ret2]

/-! ### Writing -/
theorem e_store (i : Nat) {t : TypeId} {x y : Operand} {r off n : Nat} {e : TypeId} {cs cs' : List Value} {v : Value} (ho : o.op = .store t x y) (hx : aev a x = some (.pointer (some ⟨r, off, none⟩))) (hy : aev a y = some v) (hL : L[i]? = some (r, .cells e cs)) (hn : sizeB P t = some n)
    (hone : (Nat.beq v.cells.toList.length n && allOne v.cells.toList) = true) (hlay : lay cs off v.cells.toList = some cs') (hset : setL L i (r, .cells e cs') = some L₁) : ∀ h, Has h L → ∃ h₁, opB P a o h = some (.val undef h₁) ∧ Has h₁ L₁ := by
  intro h H
  obtain ⟨h₁, e₁⟩ := h.put_some r (some (.cells e cs'))
  have := setL_eq hset
  subst this
  exact ⟨h₁, by simp only [opB, ho, hx, hy, storeB, H.row hL, hn, hone, hlay, e₁], H.put hL e₁⟩

theorem e_new {el : TypeId} {cs : List Value} {mk : Nat → Value} (e : ∀ h, opB P a o h = retRow (newCells P h el cs) mk) (hs : (sizeB P el).isSome = true) : ∀ h, Has h L → ∃ r h₁, opB P a o h = some (.val (mk r) h₁) ∧ Has h₁ ((r, .cells el cs) :: L) := by
  intro h H
  obtain ⟨h₁, e₁⟩ := h.new_some (.cells el cs)
  refine ⟨h.next, h₁, ?_, H.new e₁⟩
  rw [e]
  unfold newCells
  cases hsz : sizeB P el with
  | none => rw [hsz] at hs; cases hs
  | some n => simp only [e₁, retRow]

/-- n times the same cells. -/
def repL (zs : List Value) (n : Nat) : List Value := (List.replicate n zs).flatten
theorem rep_of {zs : List Value} : ∀ {n : Nat}, rep zs n = some (repL zs n)
  | 0 => rfl
  | n + 1 => by
    have hj : ∀ (x y : List Value), join x y = some (x ++ y) := by
      intro x y
      induction x with
      | nil => rfl
      | cons v x ih => simp only [join, ih]; rfl
    simp only [rep, rep_of (n := n), hj]
    simp [repL, List.replicate_succ]
theorem join_of {α : Type} : ∀ (x y : List α), join x y = some (x ++ y)
  | [], y => rfl
  | v :: x, y => by simp only [join, join_of x y]; rfl
theorem repL_len {zs : List Value} {n : Nat} : (repL zs n).length = n * zs.length := by simp [repL]
theorem repL_one {z : Value} {n : Nat} : repL [z] n = List.replicate n z := by
  induction n with
  | zero => rfl
  | succ n ih => simp only [repL, List.replicate_succ, List.flatten_cons] at ih ⊢; rw [ih]; rfl

/-- What make is asked for: the elements' type, its info, the cells of its zero. -/
def makeT (P : Program) (t : TypeId) : Option (TypeId × Nat × Nat × List Value) :=
  match P.underlying t with
  | some (.slice e) => match P.info? e, zerosB P e with
    | some i, some zs => match Nat.beq zs.length i.size with
      | true => some (e, i.size, i.bytes, zs)
      | false => none
    | _, _ => none
  | _ => none
theorem makeT_eq {t e : TypeId} {sz by' : Nat} {zs : List Value} (h : makeT P t = some (e, sz, by', zs)) : P.underlying t = some (.slice e) ∧ (∃ i, P.info? e = some i ∧ i.size = sz ∧ i.bytes = by') ∧ zerosB P e = some zs ∧ zs.length = sz := by
  unfold makeT at h
  split at h
  case h_2 => cases h
  rename_i e' he
  split at h
  case h_2 => cases h
  rename_i i zs' hi hz
  split at h
  case h_2 => cases h
  rename_i hb
  simp at h
  obtain ⟨rfl, rfl, rfl, rfl⟩ := h
  exact ⟨he, ⟨i, hi, rfl, rfl⟩, hz, of_beq hb⟩
theorem e_make {t e : TypeId} {x y : Operand} {k1 k2 : IntKind} {l c sz bts : Nat} {zs : List Value} (ho : o.op = .makeSlice t x y) (hx : aev a x = some (.int k1 (l : Int))) (hy : aev a y = some (.int k2 (c : Int))) (hT : makeT P t = some (e, sz, bts, zs)) (hl : l ≤ c) (hc : c * bts ≤ 140737488355328) (hc2 : c ≤ 140737488355328) :
    ∀ h, Has h L → ∃ r h₁, opB P a o h = some (.val (.slice (some ⟨r, 0, none⟩) l c) h₁) ∧ Has h₁ ((r, .cells e (repL zs c)) :: L) := by
  intro h H
  obtain ⟨ht, ⟨i, hi, hsz, hbt⟩, hz, hzl⟩ := makeT_eq hT
  obtain ⟨h₁, e₁⟩ := h.new_some (.cells e (repL zs c))
  refine ⟨h.next, h₁, ?_, H.new e₁⟩
  have b1 : ileB 0 (l : Int) = true := ileB_iff.2 (by omega)
  have b2 : ileB (l : Int) (c : Int) = true := ileB_iff.2 (by omega)
  have b3 : smallB c i.bytes = true := by unfold smallB; exact Nat.ble_eq_true_of_le (by rw [hbt]; exact hc)
  have b4 : Nat.beq zs.length i.size = true := beq_true (by rw [hzl, hsz])
  have b5 : Nat.ble c 140737488355328 = true := Nat.ble_eq_true_of_le hc2
  have hs : sizeB P e = some i.size := by unfold sizeB; rw [hi]
  simp only [opB, ho, hx, hy, makeSliceB, ht, hi, hz, b1, b2, Int.toNat_natCast, b3, b4, b5, Bool.and_self, rep_of, newCells, hs, e₁, retRow]

/-- What append is asked for: the elements' type, how many cells and bytes they have; its second argument is a text? -/
def appT (P : Program) (c : Call) : Option (TypeId × Nat × Nat) :=
  match c.callee with
  | .builtin .append => match c.argTypes[0]?, c.argTypes[1]? with
    | some st, some xt => match P.underlying st, P.underlying xt with
      | some (.slice e), some xd => match xd with
        | .int _ => none
        | _ => match P.info? e, zeroFits P e with
          | some i, true => some (e, i.size, i.bytes)
          | _, _ => none
      | _, _ => none
    | _, _ => none
  | _ => none
theorem e_append_gen {c : Call} {e : TypeId} {sz bts len cap n : Nat} {base : Option Addr} {x : Value} {new old : List Value} {h h₀ : AW} (ho : o.op = .call c) (hT : appT P c = some (e, sz, bts)) (ha : evs a c.args.toList = some [.slice base len cap, x]) (hn : lenB x = some n) (hf : firstB sz n x h = some new)
    (hone : (allOne new && (notText x || Nat.beq sz 1)) = true) (hsm : (len + n) * bts ≤ 140737488355328) (hsm2 : len + n ≤ 140737488355328)
    (hcase : (cap = openCap ∧ ∃ r off cs, base = some ⟨r, off, none⟩ ∧ getRow h r = some (e, cs) ∧ cut cs off (len * sz) = some old ∧ h.put r none = some h₀) ∨ (cap = 0 ∧ len = 0 ∧ base = none ∧ 0 < n ∧ old = [] ∧ h₀ = h)) :
    ∃ h₁, opB P a o h = some (.val (.slice (some ⟨h₀.next, 0, none⟩) (len + n) openCap) h₁) ∧ h₀.new (.cells e (old ++ new)) = some (h₀.next, h₁) := by
  unfold appT at hT
  split at hT
  case h_2 => cases hT
  rename_i hcal
  split at hT
  case h_2 => cases hT
  rename_i st xt hst hxt
  split at hT
  case h_2 => cases hT
  rename_i e' xd hu1 hu2
  have hxd : (∀ k, xd = .int k → False) ∧ ∃ i, P.info? e' = some i ∧ zeroFits P e' = true ∧ e' = e ∧ i.size = sz ∧ i.bytes = bts := by
    split at hT
    · cases hT
    · rename_i hno
      split at hT
      case h_2 => cases hT
      rename_i i hi hz
      simp at hT
      obtain ⟨rfl, rfl, rfl⟩ := hT
      exact ⟨fun k hk => hno k hk, i, hi, hz, rfl, rfl, rfl⟩
  obtain ⟨hno, i, hi, hz, rfl, rfl, rfl⟩ := hxd
  obtain ⟨h₁, e₁⟩ := h₀.new_some (.cells e' (old ++ new))
  refine ⟨h₁, ?_, e₁⟩
  have hs : sizeB P e' = some i.size := by unfold sizeB; rw [hi]
  have b2 : Nat.ble (len + n) 140737488355328 = true := Nat.ble_eq_true_of_le hsm2
  have hgrow : growB P h₀ e' (len + n) old new = some (.slice (some ⟨h₀.next, 0, none⟩) (len + n) openCap, h₁) := by
    simp only [growB, join_of, hz, b2, Bool.and_self, newCells, hs, e₁]
  simp only [opB, ho, ha, callOpB, hcal, appendB, hst, hxt, hu1, hu2]
  cases xd <;> first | exact (hno _ rfl).elim | skip
  all_goals
    simp only [hi, hn, hf, hone]
    rcases hcase with ⟨rfl, r, off, cs, rfl, hrow, hcut, hput⟩ | ⟨rfl, rfl, rfl, hpos, rfl, rfl⟩
    · have hc : Nat.beq openCap openCap = true := beq_true rfl
      have b1 : smallB (len + n) i.bytes = true := by unfold smallB; exact Nat.ble_eq_true_of_le hsm
      simp only [hc, hrow, b1, beq_true rfl, hcut, hput, hgrow, ret2]
    · have hc : Nat.beq 0 openCap = false := beq_false (by decide)
      have b0 : Nat.ble (0 + n) 0 = false := by
        cases hb : Nat.ble (0 + n) 0 with
        | false => rfl
        | true => have := of_ble hb; omega
      have b1 : smallB (0 + n + 0) i.bytes = true := by unfold smallB; exact Nat.ble_eq_true_of_le (by simpa using hsm)
      have bf : firstB i.size 0 (.slice none 0 0) h₀ = some [] := by simp [firstB]
      simp only [hc, b0, bf, b1, hgrow, ret2]

/-- To a row of its own. -/
theorem e_append (i : Nat) {c : Call} {e : TypeId} {sz bts len n r off : Nat} {x : Value} {new old cs : List Value} (ho : o.op = .call c) (hT : appT P c = some (e, sz, bts)) (ha : evs a c.args.toList = some [.slice (some ⟨r, off, none⟩) len openCap, x]) (hn : lenB x = some n)
    (hf : ∀ h, Has h L → firstB sz n x h = some new) (hone : (allOne new && (notText x || Nat.beq sz 1)) = true) (hsm : (len + n) * bts ≤ 140737488355328) (hsm2 : len + n ≤ 140737488355328)
    (hL : L[i]? = some (r, .cells e cs)) (hcut : cut cs off (len * sz) = some old) (hd : dropL L i = some L₁) : ∀ h, Has h L → ∃ r' h₁, opB P a o h = some (.val (.slice (some ⟨r', 0, none⟩) (len + n) openCap) h₁) ∧ Has h₁ ((r', .cells e (old ++ new)) :: L₁) := by
  intro h H
  obtain ⟨h₀, e₀⟩ := h.put_some r none
  obtain ⟨h₁, e₁, e₂⟩ := e_append_gen ho hT ha hn (hf h H) hone hsm hsm2 (.inl ⟨rfl, r, off, cs, rfl, H.row hL, hcut, e₀⟩)
  have := dropL_eq hd
  subst this
  exact ⟨h₀.next, h₁, e₁, (H.drop hL e₀).new e₂⟩
/-- To nothing. -/
theorem e_append0 {c : Call} {e : TypeId} {sz bts n : Nat} {x : Value} {new : List Value} (ho : o.op = .call c) (hT : appT P c = some (e, sz, bts)) (ha : evs a c.args.toList = some [.slice none 0 0, x]) (hn : lenB x = some n)
    (hf : ∀ h, Has h L → firstB sz n x h = some new) (hone : (allOne new && (notText x || Nat.beq sz 1)) = true) (hsm : n * bts ≤ 140737488355328) (hsm2 : n ≤ 140737488355328) (hpos : 0 < n) :
    ∀ h, Has h L → ∃ r' h₁, opB P a o h = some (.val (.slice (some ⟨r', 0, none⟩) n openCap) h₁) ∧ Has h₁ ((r', .cells e new) :: L) := by
  intro h H
  obtain ⟨h₁, e₁, e₂⟩ := e_append_gen (h₀ := h) (old := []) ho hT ha hn (hf h H) hone (by simpa using hsm) (by simpa using hsm2) (.inr ⟨rfl, rfl, rfl, hpos, rfl, rfl⟩)
  exact ⟨h.next, h₁, by simpa using e₁, H.new e₂⟩

theorem first_text {n : Nat} {sz : Nat} {bs : List UInt8} (hn : n = bs.length) : ∀ h, Has h L → firstB sz n (.string ⟨⟨bs⟩⟩) h = some (byteCells bs) := by
  intro h _
  subst hn
  simp only [firstB, takeAll, beq_true rfl, cellsOfB_bytes]
theorem first_row (i : Nat) {n sz r off len cap : Nat} {row : ARow} {cs vs : List Value} (hL : L[i]? = some (r, row)) (hc : rdRow row = some cs) (hcut : cut cs off (n * sz) = some vs) : ∀ h, Has h L → firstB sz n (.slice (some ⟨r, off, none⟩) len cap) h = some vs := by
  intro h H
  simp only [firstB]
  cases hb : Nat.beq n 0 with
  | true =>
    have := of_beq hb
    subst this
    have : vs = [] := by have := (cut_eq hcut).2.2.1; exact List.eq_nil_of_length_eq_zero (by simpa using this)
    subst this; rfl
  | false => simp only [H.read hL hc, hcut]

/-! ### A capacity that is forgotten -/
theorem OS.opened {ops rest : List Oper} {K : Slots → RL → Prop} (d i : Nat) {r off len cap sz : Nat} {e : TypeId} {cs : List Value} (hd : a[d]? = some (.slice (some ⟨r, off, none⟩) len cap)) (hL : L[i]? = some (r, .cells e cs)) (hs : sizeB P e = some sz) (hb : off + cap * sz ≤ cs.length) (hlt : cap < openCap)
    (ep : setAt a d (.slice (some ⟨r, off, none⟩) len openCap) = some a₁) (k : OS P ops rest a₁ L K) : OS P ops rest a L K := by
  intro h H ro ds opsA i' ρ act w Q ho hdr hr hdf HR hQ
  refine k h H ro ds opsA i' ρ act w Q ho hdr ?_ hdf HR hQ
  obtain ⟨u, hu, hv⟩ := hr.get hd
  have hl : ∃ l, ρ r = some l ∧ RowRel P ρ w l (.cells e cs) := HR.loc _ _ (H.at hL)
  obtain ⟨l, hl, C, f, h1, h2, h3, h4, h5, _⟩ := hl
  have hesz : l.esz = sz := by have h5 := h5.size; rw [hs] at h5; simpa using h5.symm
  have hv' : VRel ρ (.slice (some ⟨r, off, none⟩) len openCap) u := by
    cases hv with
    | @slice _ _ _ _ cap' ad hl' hc' ha' =>
      have hcc := hc' (by omega)
      refine .slice hl' (fun hh => absurd rfl hh) fun hz => ?_
      obtain ⟨l', e1, e2, _⟩ := ha' hz
      rw [hl] at e1; simp at e1; subst e1
      exact ⟨l, hl, e2, fun _ => ⟨by rw [hesz, hcc]; omega, by rw [hcc]; exact hlt⟩⟩
  have := setAt_rel ep hr hv'
  have hset : act.tmps.toList.set d u = act.tmps.toList := by
    apply List.ext_getElem?
    intro j
    rw [List.getElem?_set]
    by_cases hj : d = j
    · subst hj; rw [if_pos rfl, if_pos (List.getElem?_eq_some_iff.1 hu).1, hu]
    · rw [if_neg hj]
  rwa [hset] at this
end

/-! ### Regions that draw their order -/
section
variable {P : Program} {ops : List Oper} {ms : List Nat} {K : Slots → RL → Prop} {sched : List (Nat × Bool)} {dn : Dn} {a a₁ : Slots} {L L₁ : RL} {o : Oper} {v : Value} {i : Nat}

/-- So it is at any rows. -/
def Always (P : Program) (ops : List Oper) (e : Nat × Slots × Value) : Prop := ∀ p, ops[e.1]? = some p → ∀ h, StepQ P e.2.1 p h e.2.2
def ODS (P : Program) (ops : List Oper) (ms : List Nat) (K : Slots → RL → Prop) (sched : List (Nat × Bool)) (dn : Dn) (a : Slots) (L : RL) : Prop :=
  ∀ h, Has h L → ∀ dn₀ : Dn, (∀ e, e ∈ dn₀ → e ∈ dn ∨ Always P ops e) → OD P ops ms (fun a' h' => ∃ L', K a' L' ∧ Has h' L') sched dn₀ a h
/-- What was told, and may have been put off, is told likewise over these rows. -/
def Keep (P : Program) (ops : List Oper) (ms : List Nat) (i : Nat) (dn : Dn) (L : RL) : Prop :=
  ∀ h, Has h L → ∀ e, e ∈ dn → ahead ms i e.1 = false → ∀ p, ops[e.1]? = some p → StepQ P e.2.1 p h e.2.2
theorem Keep.nil : Keep P ops ms i [] L := fun _ _ _ he => (by cases he)
theorem Keep.gone {j : Nat} {b : Slots} {u : Value} (hj : ahead ms i j = true) (k : Keep P ops ms i dn L) : Keep P ops ms i ((j, b, u) :: dn) L := fun h H e he hah p hp => by
  rcases List.mem_cons.1 he with rfl | he
  · simp only at hah; rw [hj] at hah; cases hah
  · exact k h H e he hah p hp
theorem Keep.cons {j : Nat} {b : Slots} {u : Value} {q : Oper} (hj : ops[j]? = some q) (e : ∀ h, Has h L → opB P b q h = some (.val u h)) (k : Keep P ops ms i dn L) : Keep P ops ms i ((j, b, u) :: dn) L := fun h H e' he hah p hp => by
  rcases List.mem_cons.1 he with rfl | he
  · simp only at hp; rw [hj] at hp; simp at hp; subst hp; exact .inl (e h H)
  · exact k h H e' he hah p hp

theorem ODS.nil (k : K a L) : ODS P ops ms K [] dn a L := fun h H dn₀ _ => by simp only [OD]; exact ⟨L, k, H⟩
theorem ODS.skip {wr : Bool} (hi : ops[i]? = some o) (hw : skipB ops o a = true) (ep : putAt a o.dst undef = some a₁) (k : ODS P ops ms K sched dn a₁ L) : ODS P ops ms K ((i, wr) :: sched) dn a L := fun h H dn₀ hdn => by
  simp only [OD]
  exact ⟨o, hi, .inl ⟨hw, a₁, ep, k h H dn₀ hdn⟩⟩
theorem ODS.pure (hi : ops[i]? = some o) (hw : wantedB ops o a = true) (e : ∀ h, opB P a o h = some (.val v h)) (ep : putAt a o.dst v = some a₁) (k : ODS P ops ms K sched dn a₁ L) : ODS P ops ms K ((i, false) :: sched) dn a L := fun h H dn₀ hdn => by
  simp only [OD]
  refine ⟨o, hi, .inr (.inl ⟨hw, by simp, v, a₁, .inl (e h), ep, k h H _ fun e' he => ?_⟩)⟩
  rcases List.mem_cons.1 he with rfl | he
  · exact .inr fun p hp h' => by simp only at hp; rw [hi] at hp; simp at hp; subst hp; exact .inl (e h')
  · exact hdn e' he
theorem ODS.void {r off : Nat} (hi : ops[i]? = some o) (hw : wantedB ops o a = true) (e : voidB P o = true) (ep : putAt a o.dst (.slice (some ⟨r, off, none⟩) 0 0) = some a₁) (k : ODS P ops ms K sched dn a₁ L) : ODS P ops ms K ((i, false) :: sched) dn a L := fun h H dn₀ hdn => by
  simp only [OD]
  refine ⟨o, hi, .inr (.inl ⟨hw, by simp, .slice (some ⟨r, off, none⟩) 0 0, a₁, .inr (.inr ⟨e, r, off, rfl⟩), ep, k h H _ fun e' he => ?_⟩)⟩
  rcases List.mem_cons.1 he with rfl | he
  · exact .inr fun p hp h' => by simp only at hp; rw [hi] at hp; simp at hp; subst hp; exact .inr (.inr ⟨e, r, off, rfl⟩)
  · exact hdn e' he
theorem ODS.still {f : FuncId} {args : List Value} (hi : ops[i]? = some o) (hw : wantedB ops o a = true) (e : ∀ h, opB P a o h = some (.call f args)) (hc : ∀ h, CQ P f args h fun v' h' => v' = v ∧ h' = h) (ep : putAt a o.dst v = some a₁) (k : ODS P ops ms K sched dn a₁ L) : ODS P ops ms K ((i, false) :: sched) dn a L := fun h H dn₀ hdn => by
  simp only [OD]
  refine ⟨o, hi, .inr (.inl ⟨hw, by simp, v, a₁, .inr (.inl ⟨f, args, e h, hc h⟩), ep, k h H _ fun e' he => ?_⟩)⟩
  rcases List.mem_cons.1 he with rfl | he
  · exact .inr fun p hp h' => by simp only at hp; rw [hi] at hp; simp at hp; subst hp; exact .inr (.inl ⟨f, args, e h', hc h'⟩)
  · exact hdn e' he
theorem ODS.read (hi : ops[i]? = some o) (hw : wantedB ops o a = true) (e : ∀ h, Has h L → opB P a o h = some (.val v h)) (ep : putAt a o.dst v = some a₁) (k : ODS P ops ms K sched ((i, a, v) :: dn) a₁ L) : ODS P ops ms K ((i, false) :: sched) dn a L := fun h H dn₀ hdn => by
  simp only [OD]
  refine ⟨o, hi, .inr (.inl ⟨hw, by simp, v, a₁, .inl (e h H), ep, k h H _ fun e' he => ?_⟩)⟩
  rcases List.mem_cons.1 he with rfl | he
  · exact .inl (by simp)
  · exact (hdn e' he).imp (fun h => List.mem_cons_of_mem _ h) id
theorem keepDn {dn₀ : Dn} {h : AW} (hdn : ∀ e, e ∈ dn₀ → e ∈ dn ∨ Always P ops e) (hk : Keep P ops ms i dn L) (H : Has h L) : ∀ e, e ∈ dn₀ → ahead ms i e.1 = false → ∀ p, ops[e.1]? = some p → StepQ P e.2.1 p h e.2.2 := fun e he hah p hp => by
  rcases hdn e he with he | he
  · exact hk h H e he hah p hp
  · exact he p hp h
theorem ODS.write (hi : ops[i]? = some o) (hw : wantedB ops o a = true) (e : ∀ h, Has h L → ∃ h₁, opB P a o h = some (.val v h₁) ∧ Has h₁ L₁) (ep : putAt a o.dst v = some a₁) (hk : Keep P ops ms i dn L₁) (k : ODS P ops ms K sched dn a₁ L₁) : ODS P ops ms K ((i, true) :: sched) dn a L := fun h H dn₀ hdn => by
  simp only [OD]
  obtain ⟨h₁, e₁, H₁⟩ := e h H
  exact ⟨o, hi, .inr (.inr ⟨hw, by simp, .inl ⟨v, h₁, e₁, a₁, ep, keepDn hdn hk H₁, k h₁ H₁ dn₀ hdn⟩⟩)⟩
theorem ODS.fresh {V : Nat → Value} {A : Nat → Slots} {M : Nat → RL} (hi : ops[i]? = some o) (hw : wantedB ops o a = true) (e : ∀ h, Has h L → ∃ r h₁, opB P a o h = some (.val (V r) h₁) ∧ Has h₁ (M r)) (ep : ∀ r, putAt a o.dst (V r) = some (A r)) (hk : ∀ r, Keep P ops ms i dn (M r)) (k : ∀ r, ODS P ops ms K sched dn (A r) (M r)) : ODS P ops ms K ((i, true) :: sched) dn a L := fun h H dn₀ hdn => by
  simp only [OD]
  obtain ⟨r, h₁, e₁, H₁⟩ := e h H
  exact ⟨o, hi, .inr (.inr ⟨hw, by simp, .inl ⟨_, h₁, e₁, A r, ep r, keepDn hdn (hk r) H₁, k r h₁ H₁ dn₀ hdn⟩⟩)⟩
theorem ODS.turns {R : Value → RL → Prop} (hi : ops[i]? = some o) (hw : wantedB ops o a = true) (e : ∀ h, Has h L → ∃ v h₁ L₁, opB P a o h = some (.val v h₁) ∧ Has h₁ L₁ ∧ R v L₁) (k : ∀ v L₁, R v L₁ → ∃ a₁, putAt a o.dst v = some a₁ ∧ Keep P ops ms i dn L₁ ∧ ODS P ops ms K sched dn a₁ L₁) : ODS P ops ms K ((i, true) :: sched) dn a L := fun h H dn₀ hdn => by
  simp only [OD]
  obtain ⟨v, h₁, L₁, e₁, H₁, hR⟩ := e h H
  obtain ⟨a₁, ep, hk, k⟩ := k v L₁ hR
  exact ⟨o, hi, .inr (.inr ⟨hw, by simp, .inl ⟨_, h₁, e₁, a₁, ep, keepDn hdn hk H₁, k h₁ H₁ dn₀ hdn⟩⟩)⟩
theorem ODS.call {f : FuncId} {args : List Value} (hi : ops[i]? = some o) (hw : wantedB ops o a = true) (e : ∀ h, opB P a o h = some (.call f args)) (hc : CS P f args L fun v L₁ => ∃ a₁, putAt a o.dst v = some a₁ ∧ Keep P ops ms i dn L₁ ∧ ODS P ops ms K sched dn a₁ L₁) : ODS P ops ms K ((i, true) :: sched) dn a L := fun h H dn₀ hdn => by
  simp only [OD]
  refine ⟨o, hi, .inr (.inr ⟨hw, by simp, .inr ⟨f, args, e h, (hc h H).mono ?_⟩⟩)⟩
  rintro v h₁ ⟨L₁, ⟨a₁, ep, hk, k⟩, H₁⟩
  exact ⟨a₁, ep, keepDn hdn hk H₁, k h₁ H₁ dn₀ hdn⟩
theorem LS.drawn {rd : Option Nat} (hg : noGo P = true) (hmix : P.follows .mixedOrders = true) {id : Nat} {opsA : Array Oper} {R : AExit → Slots → RL → Prop} (sched : List (Nat × Bool)) (hl : opsA.toList = ops) (hm : masksB ops [] = some ms) (hok : drawOk2 ops ms sched = true) (k : ODS P ops ms (R .normal) sched [] a L) : LSr rd P (.region id opsA true) a L R :=
  fun h H => LQ.drawn2 hg hmix hl hm hok (k h H [] fun _ he => (by cases he))
end

/-! ### Numbers -/
section
variable {P : Program} {a : Slots} {o : Oper}
def inK (k : IntKind) (n : Int) : Bool := ileB (leastB k) n && ileB n (mostB k)
theorem wrap_in {k : IntKind} {n : Int} (h : inK k n = true) : wrapB k n = n := by
  unfold wrapB; unfold inK at h; rw [h]
theorem in_i64 {n : Int} (h0 : -9223372036854775808 ≤ n) (h1 : n ≤ 9223372036854775807) : inK .i64 n = true := by
  unfold inK
  rw [Bool.and_eq_true, ileB_iff, ileB_iff]
  exact ⟨h0, h1⟩
theorem wrap_u64 (n : Int) : IntKind.u64.wrap n = n % 18446744073709551616 := by simp [IntKind.wrap, IntKind.bits, IntKind.signed]
theorem in_u64 {n : Int} (h0 : 0 ≤ n) (h1 : n ≤ 18446744073709551615) : inK .u64 n = true := by
  unfold inK
  rw [Bool.and_eq_true, ileB_iff, ileB_iff]
  exact ⟨h0, h1⟩
theorem in_u8 {n : Int} (h0 : 0 ≤ n) (h1 : n ≤ 255) : inK .u8 n = true := by
  unfold inK
  rw [Bool.and_eq_true, ileB_iff, ileB_iff]
  exact ⟨h0, h1⟩
theorem lt_of {x y : Int} (h : (!ileB y x) = true) : x < y := by
  have : ¬ y ≤ x := fun hh => by rw [ileB_iff.2 hh] at h; cases h
  omega
theorem nlt_of {x y : Int} (h : (!ileB y x) = false) : y ≤ x := by
  cases hb : ileB y x with
  | true => exact ileB_iff.1 hb
  | false => rw [hb] at h; cases h
theorem le_of {x y : Int} (h : ileB x y = true) : x ≤ y := ileB_iff.1 h
theorem nle_of {x y : Int} (h : ileB x y = false) : y < x := by
  have : ¬ x ≤ y := fun hh => by rw [ileB_iff.2 hh] at h; cases h
  omega
theorem eq_of {x y : Int} (h : ieqB x y = true) : x = y := by rw [ieqB_eq] at h; simpa using h
theorem neq_of {x y : Int} (h : ieqB x y = false) : x ≠ y := by rw [ieqB_eq] at h; simpa using h
end
end Go.Am

/- The abstract machine over listed rows: lists that are read, lists that grow, numbers. -/
namespace Go.Am
set_option linter.unusedVariables false

/-- The slice v has n elements of sz cells each, and reads as these cells. -/
def SV (sz : Nat) (L : RL) (v : Value) (n : Nat) (cs : List Value) : Prop :=
  (v = .slice none 0 0 ∧ n = 0 ∧ cs = []) ∨ ∃ r off cap row cs₀, v = .slice (some ⟨r, off, none⟩) n cap ∧ (r, row) ∈ L ∧ rdRow row = some cs₀ ∧ cut cs₀ off (n * sz) = some cs
theorem SV.mono {sz n : Nat} {L L' : RL} {v : Value} {cs : List Value} (h : SV sz L v n cs) (hm : ∀ p, p ∈ L → p ∈ L') : SV sz L' v n cs := by
  rcases h with h | ⟨r, off, cap, row, cs₀, h1, h2, h3⟩
  · exact .inl h
  · exact .inr ⟨r, off, cap, row, cs₀, h1, hm _ h2, h3⟩
theorem SV.cons {sz n : Nat} {L : RL} {x : Nat × ARow} {v : Value} {cs : List Value} (h : SV sz L v n cs) : SV sz (x :: L) v n cs := h.mono fun _ hp => List.mem_cons_of_mem _ hp
theorem SV.row {sz n r cap : Nat} {e : TypeId} {L : RL} {cs : List Value} (hm : (r, .cells e cs) ∈ L) (hl : cs.length = n * sz) : SV sz L (.slice (some ⟨r, 0, none⟩) n cap) n cs :=
  .inr ⟨r, 0, cap, _, cs, rfl, hm, rfl, cut_all hl⟩
theorem SV.len {sz n : Nat} {L : RL} {v : Value} {cs : List Value} (h : SV sz L v n cs) : cs.length = n * sz := by
  rcases h with ⟨_, rfl, rfl⟩ | ⟨r, off, cap, row, cs₀, _, _, _, hc⟩
  · simp
  · exact (cut_eq hc).2.2.1
theorem Has.mem {h : AW} {L : RL} {r : Nat} {row : ARow} {cs : List Value} (H : Has h L) (hm : (r, row) ∈ L) (hc : rdRow row = some cs) : readRow h r = some cs := by
  have := H.get _ hm
  unfold readRow
  cases row <;> simp only [rdRow, Option.some.injEq, reduceCtorEq] at hc <;> subst hc <;> rw [this]
theorem SV.lenB {sz n : Nat} {L : RL} {v : Value} {cs : List Value} (h : SV sz L v n cs) : Am.lenB v = some n := by
  rcases h with ⟨rfl, rfl, _⟩ | ⟨r, off, cap, row, cs₀, rfl, _⟩ <;> rfl
theorem SV.notText {sz n : Nat} {L : RL} {v : Value} {cs : List Value} (h : SV sz L v n cs) : Am.notText v = true := by
  rcases h with ⟨rfl, rfl, _⟩ | ⟨r, off, cap, row, cs₀, rfl, _⟩ <;> rfl
theorem SV.first {sz n : Nat} {L : RL} {v : Value} {cs : List Value} {h : AW} (hs : SV sz L v n cs) (H : Has h L) : firstB sz n v h = some cs := by
  rcases hs with ⟨rfl, rfl, rfl⟩ | ⟨r, off, cap, row, cs₀, rfl, hm, hc, hcut⟩
  · rfl
  · simp only [firstB]
    cases hb : Nat.beq n 0 with
    | true =>
      have := of_beq hb
      subst this
      have : cs = [] := by have := (cut_eq hcut).2.2.1; exact List.eq_nil_of_length_eq_zero (by simpa using this)
      subst this; rfl
    | false => simp only [H.mem hm hc, hcut]
theorem cut_get {xs ys : List Value} {off n j : Nat} {v : Value} (h : cut xs off n = some ys) (hj : ys[j]? = some v) : xs[off + j]? = some v := by
  obtain ⟨rfl, _, _, _⟩ := cut_eq h
  rw [List.getElem?_take] at hj
  split at hj
  · simpa using hj
  · cases hj
theorem cut_cut {xs ys zs : List Value} {off n o m : Nat} (h : cut xs off n = some ys) (h' : cut ys o m = some zs) : cut xs (off + o) m = some zs := by
  obtain ⟨rfl, h1, h2, h3⟩ := cut_eq h
  obtain ⟨rfl, h1', h2', h3'⟩ := cut_eq h'
  simp only [List.length_take, List.length_drop] at h2 h2' h1' h3'
  have hl : off + o + m ≤ xs.length := by omega
  have hm : m ≤ n - o := by omega
  rw [cut_of hl, List.drop_take, List.take_take, List.drop_drop, Nat.min_eq_left hm]

theorem cut_zero {xs : List Value} : cut xs 0 0 = some [] := by cases xs <;> rfl
theorem byteCells_one (bs : List UInt8) : allOne (byteCells bs) = true := by
  induction bs with
  | nil => rfl
  | cons b bs ih => simpa [byteCells, allOne, oneB] using ih
theorem byteCells_get {bs : List UInt8} {j : Nat} {b : UInt8} (h : bs[j]? = some b) : (byteCells bs)[j]? = some (.int .u8 (b.toNat : Int)) := by simp [byteCells, h]
/-- One more byte. -/
theorem byteCells_snoc (bs : List UInt8) {x : Int} {b : UInt8} (h : x = (b.toNat : Int)) : byteCells bs ++ [.int .u8 x] = byteCells (bs ++ [b]) := by
  subst h; simp [byteCells]

section
variable {P : Program} {a a₁ : Slots} {o : Oper} {L L₁ : RL} {t z : TypeId} {x y : Operand} {k : IntKind} {m n : Int}
theorem e_add (ho : o.op = .binOp .add t x y z) (hx : aev a x = some (.int k m)) (hy : aev a y = some (.int k n)) (hi : inK k (m + n) = true) : ∀ h, opB P a o h = some (.val (.int k (m + n)) h) := by
  intro h
  simp only [opB, ho, hx, hy, eqOk, binB, if_true, wrap_in hi, ret]
theorem e_sub (ho : o.op = .binOp .sub t x y z) (hx : aev a x = some (.int k m)) (hy : aev a y = some (.int k n)) (hi : inK k (m - n) = true) : ∀ h, opB P a o h = some (.val (.int k (m - n)) h) := by
  intro h
  simp only [opB, ho, hx, hy, eqOk, binB, if_true, wrap_in hi, ret]
theorem e_mul (ho : o.op = .binOp .mul t x y z) (hx : aev a x = some (.int k m)) (hy : aev a y = some (.int k n)) (hi : inK k (m * n) = true) : ∀ h, opB P a o h = some (.val (.int k (m * n)) h) := by
  intro h
  simp only [opB, ho, hx, hy, eqOk, binB, if_true, wrap_in hi, ret]
/-- A quotient, of numbers from 0 on. -/
theorem e_quo {m n : Nat} (ho : o.op = .binOp .quo t x y z) (hx : aev a x = some (.int k (m : Int))) (hy : aev a y = some (.int k (n : Int))) (hn : n ≠ 0) (hi : inK k ((m / n : Nat) : Int) = true) : ∀ h, opB P a o h = some (.val (.int k ((m / n : Nat) : Int)) h) := by
  intro h
  have h0 : ieqB (n : Int) 0 = false := by rw [ieqB_eq]; simpa using hn
  have h1 : (m : Int).tdiv (n : Int) = ((m / n : Nat) : Int) := by rw [Int.tdiv_eq_ediv_of_nonneg (by omega)]; rfl
  simp only [opB, ho, hx, hy, eqOk, binB, if_true, h0, h1, wrap_in hi, ret]
theorem e_rem {m n : Nat} (ho : o.op = .binOp .rem t x y z) (hx : aev a x = some (.int k (m : Int))) (hy : aev a y = some (.int k (n : Int))) (hn : n ≠ 0) : ∀ h, opB P a o h = some (.val (.int k ((m % n : Nat) : Int)) h) := by
  intro h
  have h0 : ieqB (n : Int) 0 = false := by rw [ieqB_eq]; simpa using hn
  have h1 : (m : Int).tmod (n : Int) = ((m % n : Nat) : Int) := by rw [Int.tmod_eq_emod_of_nonneg (by omega)]; rfl
  simp only [opB, ho, hx, hy, eqOk, binB, if_true, h0, h1, ret]
theorem e_conv {src dst : TypeId} {k k' : IntKind} (ho : o.op = .convert src dst x) (hx : aev a x = some (.int k n)) (hs : P.underlying src = some (.int k)) (hd : P.underlying dst = some (.int k')) (hi : inK k' n = true) : ∀ h, opB P a o h = some (.val (.int k' n) h) := by
  intro h
  simp only [opB, ho, hx, convB, hs, hd, wrap_in hi, ret2]
/-- Whatever the value is called. -/
theorem e_is {v v' : Value} (e : ∀ h, opB P a o h = some (.val v h)) (hv : v = v') : ∀ h, opB P a o h = some (.val v' h) := hv ▸ e
theorem e_is' {v v' : Value} (e : ∀ h, Has h L → opB P a o h = some (.val v h)) (hv : v = v') : ∀ h, Has h L → opB P a o h = some (.val v' h) := hv ▸ e

theorem e_len {c : Call} {sz n : Nat} {v : Value} {cs : List Value} {t e : TypeId} (hs : SV sz L v n cs) (ho : o.op = .call c) (hc : c.callee = .builtin .len) (ha : evs a c.args.toList = some [v]) (ht : c.argTypes[0]? = some t) (hu : P.underlying t = some (.slice e)) : ∀ h, opB P a o h = some (.val (.int .i64 n) h) := by
  intro h
  rcases hs with ⟨rfl, rfl, rfl⟩ | ⟨r, off, cap, row, cs₀, rfl, _⟩ <;> simp only [opB, ho, ha, callOpB, hc, lenOpB, ht, hu, ret, goInt] <;> rfl
/-- An element of a list that is read: where it lies. -/
theorem e_at {t e : TypeId} {i : Operand} {sz n j : Nat} {k : IntKind} {v : Value} {cs : List Value} (hs : SV sz L v n cs) (hj : j < n) (ho : o.op = .indexAddr t x i) (hx : aev a x = some v) (hi : aev a i = some (.int k (j : Int))) (ht : P.underlying t = some (.slice e)) (hz : sizeB P e = some sz) :
    ∃ r off row cs₀, (r, row) ∈ L ∧ rdRow row = some cs₀ ∧ (∀ m u, m < sz → cs[j * sz + m]? = some u → cs₀[off + m]? = some u) ∧ (∀ us, cut cs (j * sz) sz = some us → cut cs₀ off sz = some us) ∧ ∀ h, opB P a o h = some (.val (.pointer (some ⟨r, off, none⟩)) h) := by
  rcases hs with ⟨rfl, rfl, rfl⟩ | ⟨r, off, cap, row, cs₀, rfl, hm, hc, hcut⟩
  · omega
  · refine ⟨r, off + j * sz, row, cs₀, hm, hc, fun m u _ hu => ?_, fun us hu => ?_, e_index ho hx hi ht hz hj⟩
    · have := cut_get hcut hu
      rwa [Nat.add_assoc]
    · exact cut_cut hcut hu
theorem e_loadm {t : TypeId} {r off : Nat} {row : ARow} {cs : List Value} {v : Value} (hm : (r, row) ∈ L) (hc : rdRow row = some cs) (ho : o.op = .load t x) (hx : aev a x = some (.pointer (some ⟨r, off, none⟩))) (hv : partB P t cs off = some v) : ∀ h, Has h L → opB P a o h = some (.val v h) := by
  intro h H
  simp only [opB, ho, hx, loadB, H.mem hm hc, hv, ret]
theorem part_one {t : TypeId} {cs : List Value} {off : Nat} {v : Value} (ht : isAggB P t = some false) (hv : cs[off]? = some v) : partB P t cs off = some v := by unfold partB; rw [ht]; exact hv
theorem part_agg {t : TypeId} {cs vs : List Value} {off n : Nat} (ht : isAggB P t = some true) (hs : sizeB P t = some n) (hv : cut cs off n = some vs) : partB P t cs off = some (.agg ⟨vs⟩) := by unfold partB; rw [ht]; simp only [hs, hv]

theorem e_textSV {src dst e : TypeId} {n : Nat} {v : Value} {bs : List UInt8} (hs : SV 1 L v n (byteCells bs)) (ho : o.op = .convert src dst x) (hx : aev a x = some v) (h1 : P.underlying src = some (.slice e)) (h2 : P.underlying dst = some .string) (hu : isU8 P e = true) : ∀ h, Has h L → opB P a o h = some (.val (.string ⟨⟨bs⟩⟩) h) := by
  intro h H
  rcases hs with ⟨rfl, rfl, hb⟩ | ⟨r, off, cap, row, cs₀, rfl, hm, hc, hcut⟩
  · have : bs = [] := by simpa [byteCells] using hb
    subst this
    exact e_text0 ho hx h1 h2 hu h
  · simp only [opB, ho, hx, convB, h1, h2, hu]
    cases hl : Nat.beq n 0 with
    | true =>
      have := of_beq hl
      subst this
      have : bs = [] := by
        have := (cut_eq hcut).2.2.1
        simp [byteCells] at this
        exact this
      subst this; rfl
    | false =>
      rw [Nat.mul_one] at hcut
      simp only [H.mem hm hc, hcut, bytesOfB_cells, ret2]

/-- A list of its own grows. -/
theorem e_appendSV (i : Nat) {c : Call} {e : TypeId} {sz bts len n r off : Nat} {x : Value} {new old cs : List Value} (hs : SV sz L x n new) (hone : allOne new = true) (ho : o.op = .call c) (hT : appT P c = some (e, sz, bts)) (ha : evs a c.args.toList = some [.slice (some ⟨r, off, none⟩) len openCap, x])
    (hsm : (len + n) * bts ≤ 140737488355328) (hsm2 : len + n ≤ 140737488355328) (hL : L[i]? = some (r, .cells e cs)) (hcut : cut cs off (len * sz) = some old) (hd : dropL L i = some L₁) :
    ∀ h, Has h L → ∃ r' h₁, opB P a o h = some (.val (.slice (some ⟨r', 0, none⟩) (len + n) openCap) h₁) ∧ Has h₁ ((r', .cells e (old ++ new)) :: L₁) :=
  e_append i ho hT ha hs.lenB (fun h H => hs.first H) (by rw [hone, hs.notText]; rfl) hsm hsm2 hL hcut hd

/-- A list that is nothing yet, or a row of its own, ahead of others. -/
def GV (e : TypeId) (sz : Nat) (F : RL) (v : Value) (n : Nat) (cs : List Value) (L : RL) : Prop :=
  (v = .slice none 0 0 ∧ n = 0 ∧ cs = [] ∧ L = F) ∨ ∃ r, v = .slice (some ⟨r, 0, none⟩) n openCap ∧ cs.length = n * sz ∧ L = (r, .cells e cs) :: F
theorem GV.nil {e : TypeId} {sz : Nat} {F : RL} : GV e sz F (.slice none 0 0) 0 [] F := .inl ⟨rfl, rfl, rfl, rfl⟩
theorem GV.of {e : TypeId} {sz n r : Nat} {F : RL} {cs : List Value} (h : cs.length = n * sz) : GV e sz F (.slice (some ⟨r, 0, none⟩) n openCap) n cs ((r, .cells e cs) :: F) := .inr ⟨r, rfl, h, rfl⟩
theorem GV.sv {e : TypeId} {sz n : Nat} {F L : RL} {v : Value} {cs : List Value} (g : GV e sz F v n cs L) : SV sz L v n cs := by
  rcases g with ⟨rfl, rfl, rfl, rfl⟩ | ⟨r, rfl, hl, rfl⟩
  · exact .inl ⟨rfl, rfl, rfl⟩
  · exact SV.row (e := e) (by simp) hl
theorem GV.mem {e : TypeId} {sz n : Nat} {F L : RL} {v : Value} {cs : List Value} (g : GV e sz F v n cs L) : ∀ p, p ∈ F → p ∈ L := by
  rcases g with ⟨rfl, rfl, rfl, rfl⟩ | ⟨r, rfl, hl, rfl⟩
  · exact fun _ h => h
  · exact fun _ h => List.mem_cons_of_mem _ h
theorem e_appendGV (X : RL) {c : Call} {e : TypeId} {sz bts n m : Nat} {F L : RL} {v x : Value} {cs new : List Value} (g : GV e sz F v n cs L) (hs : SV sz (X ++ L) x m new) (hm : 0 < m) (hone : allOne new = true) (ho : o.op = .call c) (hT : appT P c = some (e, sz, bts)) (ha : evs a c.args.toList = some [v, x])
    (hsm : (n + m) * bts ≤ 140737488355328) (hsm2 : n + m ≤ 140737488355328) :
    ∀ h, Has h (X ++ L) → ∃ r' h₁, opB P a o h = some (.val (.slice (some ⟨r', 0, none⟩) (n + m) openCap) h₁) ∧ Has h₁ ((r', .cells e (cs ++ new)) :: (X ++ F)) := by
  intro h H
  rcases g with ⟨rfl, rfl, rfl, rfl⟩ | ⟨r, rfl, hl, rfl⟩
  · obtain ⟨r', h₁, e₁, H₁⟩ := e_append0 ho hT ha hs.lenB (fun h H => hs.first H) (by rw [hone, hs.notText]; rfl) (by simpa using hsm) (by simpa using hsm2) hm h H
    exact ⟨r', h₁, by simpa using e₁, by simpa using H₁⟩
  · have hX : (X ++ (r, .cells e cs) :: F)[X.length]? = some (r, .cells e cs) := by simp
    have hd : ∀ (X : RL), dropL (X ++ (r, .cells e cs) :: F) X.length = some (X ++ F) := by
      intro X
      induction X with
      | nil => rfl
      | cons y X ih => simp only [List.cons_append, List.length_cons, dropL, ih]
    exact e_appendSV X.length hs hone ho hT ha hsm hsm2 hX (cut_all hl) (hd X) h H

/-- An element of a list that is read. -/
theorem OS.at {ops rest : List Oper} {K : Slots → RL → Prop} {t e : TypeId} {i : Operand} {sz n j : Nat} {k : IntKind} {v : Value} {cs : List Value} (hs : SV sz L v n cs) (hj : j < n) (hw : wantedB ops o a = true) (ho : o.op = .indexAddr t x i) (hx : aev a x = some v) (hi : aev a i = some (.int k (j : Int)))
    (ht : P.underlying t = some (.slice e)) (hz : sizeB P e = some sz) (hk : ∀ r off row cs₀, (r, row) ∈ L → rdRow row = some cs₀ → (∀ m u, m < sz → cs[j * sz + m]? = some u → cs₀[off + m]? = some u) → (∀ us, cut cs (j * sz) sz = some us → cut cs₀ off sz = some us) →
      ∃ a₁, putAt a o.dst (.pointer (some ⟨r, off, none⟩)) = some a₁ ∧ OS P ops rest a₁ L K) : OS P ops (o :: rest) a L K := by
  obtain ⟨r, off, row, cs₀, h1, h2, h3, h4, h5⟩ := e_at hs hj ho hx hi ht hz
  obtain ⟨a₁, ep, k'⟩ := hk r off row cs₀ h1 h2 h3 h4
  exact OS.pure hw h5 ep k'
theorem ODS.at {ops : List Oper} {ms : List Nat} {sched : List (Nat × Bool)} {dn : Dn} {q : Nat} {K : Slots → RL → Prop} {t e : TypeId} {i : Operand} {sz n j : Nat} {k : IntKind} {v : Value} {cs : List Value} (hs : SV sz L v n cs) (hj : j < n) (hq : ops[q]? = some o) (hw : wantedB ops o a = true) (ho : o.op = .indexAddr t x i) (hx : aev a x = some v) (hi : aev a i = some (.int k (j : Int)))
    (ht : P.underlying t = some (.slice e)) (hz : sizeB P e = some sz) (hk : ∀ r off row cs₀, (r, row) ∈ L → rdRow row = some cs₀ → (∀ m u, m < sz → cs[j * sz + m]? = some u → cs₀[off + m]? = some u) → (∀ us, cut cs (j * sz) sz = some us → cut cs₀ off sz = some us) →
      ∃ a₁, putAt a o.dst (.pointer (some ⟨r, off, none⟩)) = some a₁ ∧ ODS P ops ms K sched dn a₁ L) : ODS P ops ms K ((q, false) :: sched) dn a L := by
  obtain ⟨r, off, row, cs₀, h1, h2, h3, h4, h5⟩ := e_at hs hj ho hx hi ht hz
  obtain ⟨a₁, ep, k'⟩ := hk r off row cs₀ h1 h2 h3 h4
  exact ODS.pure hq hw h5 ep k'

/-- An element of one cell. -/
theorem OS.at1 {ops rest : List Oper} {K : Slots → RL → Prop} {t e : TypeId} {i : Operand} {n j : Nat} {k : IntKind} {v u : Value} {cs : List Value} (hs : SV 1 L v n cs) (hu : cs[j]? = some u) (hw : wantedB ops o a = true) (ho : o.op = .indexAddr t x i) (hx : aev a x = some v) (hi : aev a i = some (.int k (j : Int)))
    (ht : P.underlying t = some (.slice e)) (hz : sizeB P e = some 1) (hk : ∀ r off row cs₀, (r, row) ∈ L → rdRow row = some cs₀ → cs₀[off]? = some u →
      ∃ a₁, putAt a o.dst (.pointer (some ⟨r, off, none⟩)) = some a₁ ∧ OS P ops rest a₁ L K) : OS P ops (o :: rest) a L K :=
  OS.at hs (by have := (List.getElem?_eq_some_iff.1 hu).1; have := hs.len; omega) hw ho hx hi ht hz fun r off row cs₀ h1 h2 h3 _ => hk r off row cs₀ h1 h2 (h3 0 u (by omega) (by rw [Nat.mul_one]; exact hu))
theorem ODS.at1 {ops : List Oper} {ms : List Nat} {sched : List (Nat × Bool)} {dn : Dn} {q : Nat} {K : Slots → RL → Prop} {t e : TypeId} {i : Operand} {n j : Nat} {k : IntKind} {v u : Value} {cs : List Value} (hs : SV 1 L v n cs) (hu : cs[j]? = some u) (hq : ops[q]? = some o) (hw : wantedB ops o a = true) (ho : o.op = .indexAddr t x i) (hx : aev a x = some v) (hi : aev a i = some (.int k (j : Int)))
    (ht : P.underlying t = some (.slice e)) (hz : sizeB P e = some 1) (hk : ∀ r off row cs₀, (r, row) ∈ L → rdRow row = some cs₀ → cs₀[off]? = some u →
      ∃ a₁, putAt a o.dst (.pointer (some ⟨r, off, none⟩)) = some a₁ ∧ ODS P ops ms K sched dn a₁ L) : ODS P ops ms K ((q, false) :: sched) dn a L :=
  ODS.at hs (by have := (List.getElem?_eq_some_iff.1 hu).1; have := hs.len; omega) hq hw ho hx hi ht hz fun r off row cs₀ h1 h2 h3 _ => hk r off row cs₀ h1 h2 (h3 0 u (by omega) (by rw [Nat.mul_one]; exact hu))

theorem e_cat {xs ys : List UInt8} (ho : o.op = .binOp .add t x y z) (hx : aev a x = some (.string ⟨⟨xs⟩⟩)) (hy : aev a y = some (.string ⟨⟨ys⟩⟩)) (hl : xs.length + ys.length ≤ 9223372036854775807) : ∀ h, opB P a o h = some (.val (.string ⟨⟨xs ++ ys⟩⟩) h) := by
  intro h
  have hb : Nat.ble (xs.length + ys.length) 9223372036854775807 = true := Nat.ble_eq_true_of_le hl
  simp only [opB, ho, hx, hy, eqOk, binB, hb, join_of, ret]
/-- A byte of a text. -/
theorem e_byte {s : List UInt8} {j : Nat} {b : UInt8} (ho : o.op = .index t x y) (hx : aev a x = some (.string ⟨⟨s⟩⟩)) (hy : aev a y = some (.int k (j : Int))) (ht : P.underlying t = some .string) (hj : s[j]? = some b) : ∀ h, opB P a o h = some (.val (.int .u8 (b.toNat : Int)) h) := by
  intro h
  have hb : ileB 0 (j : Int) = true := ileB_iff.2 (by omega)
  simp only [opB, ho, hx, hy, indexB, ht, hb, Int.toNat_natCast, hj, ret]
theorem cutU_of : ∀ {xs : List UInt8} {off n : Nat}, off + n ≤ xs.length → cutU xs off n = some ((xs.drop off).take n)
  | xs, 0, n, h => by
    have ht : ∀ (xs : List UInt8) (n : Nat), n ≤ xs.length → takeU xs n = some (xs.take n) := by
      intro xs
      induction xs with
      | nil => intro n h; simp at h; subst h; rfl
      | cons x xs ih => intro n h; cases n with
        | zero => rfl
        | succ n => simp only [takeU, ih n (by simpa using h)]; rfl
    have : cutU xs 0 n = takeU xs n := by cases xs <;> rfl
    rw [this, ht _ _ (by omega)]; rfl
  | [], off + 1, n, h => by simp at h
  | x :: xs, off + 1, n, h => by simp only [cutU]; rw [cutU_of (by simp at h; omega)]; rfl
/-- A part of a text. -/
theorem e_part {lo hi : Option Operand} {lo' hi' : Option Value} {s : List UInt8} {l u : Nat} (ho : o.op = .slice t x lo hi none) (hx : aev a x = some (.string ⟨⟨s⟩⟩)) (hlo : optEv a lo = some lo') (hhi : optEv a hi = some hi') (bl : boundB lo' 0 = some l) (bu : boundB hi' s.length = some u) (ht : P.underlying t = some .string) (hu : u ≤ s.length) (hl : l ≤ u) :
    ∀ h, opB P a o h = some (.val (.string ⟨⟨(s.drop l).take (u - l)⟩⟩) h) := by
  intro h
  have hm : optEv a none = some none := rfl
  have h1 : Nat.ble u s.length = true := Nat.ble_eq_true_of_le hu
  have h2 : Nat.ble l u = true := Nat.ble_eq_true_of_le hl
  simp only [opB, ho, hx, hlo, hhi, hm, sliceB, ht, bu, bl, h1, h2, Bool.true_and, cutU_of (show l + (u - l) ≤ s.length by omega), ret]
/-- A part of a list that is read only, or whose capacity is known to be no less. -/
theorem e_sliceSV {e : TypeId} {lo hi : Option Operand} {lo' hi' : Option Value} {v : Value} {sz n l u : Nat} {cs : List Value} (hs : SV sz L v n cs) (hn : ∀ r off cap row cs₀, v = .slice (some ⟨r, off, none⟩) n cap → (r, row) ∈ L → rdRow row = some cs₀ → (cap < openCap ∧ n ≤ cap) ∨ (cap = openCap ∧ ∃ cs₁, row = .cells e cs₁)) (ho : o.op = .slice t x lo hi none) (hx : aev a x = some v)
    (hlo : optEv a lo = some lo') (hhi : optEv a hi = some hi') (bl : boundB lo' 0 = some l) (bu : boundB hi' n = some u) (ht : P.underlying t = some (.slice e)) (hz : sizeB P e = some sz) (hu : u ≤ n) (hl : l ≤ u) :
    ∃ v', SV sz L v' (u - l) ((cs.drop (l * sz)).take ((u - l) * sz)) ∧ ∀ h, Has h L → opB P a o h = some (.val v' h) := by
  have hm : optEv a none = some none := rfl
  have h2 : Nat.ble l u = true := Nat.ble_eq_true_of_le hl
  rcases hs with ⟨rfl, rfl, rfl⟩ | ⟨r, off, cap, row, cs₀, rfl, hmem, hc, hcut⟩
  · have hu0 : u = 0 := by omega
    subst hu0
    have hl0 : l = 0 := by omega
    subst hl0
    refine ⟨.slice none 0 0, .inl ⟨rfl, rfl, by simp⟩, fun h _ => ?_⟩
    have hc : Nat.beq 0 openCap = false := beq_false (by decide)
    have h1 : Nat.ble 0 (farB 0 0) = true := rfl
    have h3 : rowOk h e none 0 = true := by unfold rowOk; rw [hc]; rfl
    simp only [opB, ho, hx, hlo, hhi, hm, sliceB, ht, bu, bl, hz, h1, h2, h3, Bool.true_and, moved, hc, ret]
  · have hlen := (cut_eq hcut).2.2.1
    have hcut' : cut cs₀ (off + l * sz) ((u - l) * sz) = some ((cs.drop (l * sz)).take ((u - l) * sz)) := by
      refine cut_cut hcut (cut_of ?_)
      rw [hlen, ← Nat.add_mul]
      exact Nat.mul_le_mul_right _ (by omega)
    rcases hn r off cap row cs₀ rfl hmem hc with ⟨hne, hcap⟩ | ⟨rfl, cs₁, rfl⟩
    · refine ⟨.slice (some ⟨r, off + l * sz, none⟩) (u - l) (cap - l), .inr ⟨r, _, _, row, cs₀, rfl, hmem, hc, hcut'⟩, fun h H => ?_⟩
      have hcb : Nat.beq cap openCap = false := beq_false (by omega)
      have h1 : Nat.ble u (farB n cap) = true := by unfold farB; rw [hcb]; exact Nat.ble_eq_true_of_le (Nat.le_trans hu hcap)
      have h3 : rowOk h e (some ⟨r, off, none⟩) cap = true := by unfold rowOk; rw [hcb]; exact Nat.ble_eq_true_of_le (by omega)
      simp only [opB, ho, hx, hlo, hhi, hm, sliceB, ht, bu, bl, hz, h1, h2, h3, Bool.true_and, moved, hcb, ret]
    · refine ⟨.slice (some ⟨r, off + l * sz, none⟩) (u - l) openCap, .inr ⟨r, _, _, _, cs₀, rfl, hmem, hc, hcut'⟩, fun h H => ?_⟩
      have hcb : Nat.beq openCap openCap = true := beq_true rfl
      have h1 : Nat.ble u (farB n openCap) = true := by unfold farB; rw [hcb]; exact Nat.ble_eq_true_of_le hu
      have hg : getRow h r = some (e, cs₁) := by unfold getRow; rw [H.get _ hmem]
      have h3 : rowOk h e (some ⟨r, off, none⟩) openCap = true := by unfold rowOk; rw [hcb]; simp only [hg, beq_true rfl]
      simp only [opB, ho, hx, hlo, hhi, hm, sliceB, ht, bu, bl, hz, h1, h2, h3, Bool.true_and, moved, hcb, ret]

/-- What stands in the slots that are not listed does not matter any more. -/
def keepJ (live : List Nat) : Nat → Slots → Slots
  | _, [] => []
  | i, x :: xs => (match hasNat live i with | true => x | false => .chan none) :: keepJ live (i + 1) xs
theorem keepJ_rel {ρ : Env} {live : List Nat} : ∀ {a us : Slots} {i : Nat}, LRel ρ a us → LRel ρ (keepJ live i a) us
  | _, _, _, .nil => .nil
  | _, _, i, .cons h hs => by
    simp only [keepJ]
    refine .cons ?_ (keepJ_rel hs)
    split
    · exact h
    · exact .any _
theorem LS.junk {rd : Option Nat} {x : Code} {a a₁ : Slots} {L : RL} {R : AExit → Slots → RL → Prop} (live : List Nat) (e : keepJ live 0 a = a₁) (k : LSr rd P x a₁ L R) : LSr rd P x a L R := by
  subst e
  exact fun h H n₀ ro ρ act w Q hrd hr hd HR hQ => k h H n₀ ro ρ act w Q hrd (keepJ_rel hr) hd HR hQ
/-- What holds between two pieces, of the slots that are listed. -/
theorem LS.mid {rd : Option Nat} {x y : Code} {a : Slots} {L : RL} {R R' : AExit → Slots → RL → Prop} (live : List Nat) (M : Slots → RL → Prop) (hx : LSr rd P x a L (ThenS (fun a' L' => M (keepJ live 0 a') L') R)) (hy : ∀ a L, M a L → LSr rd P y a L R') : LSr rd P x a L (ThenS (fun a L => LSr rd P y a L R') R) :=
  hx.mono fun e a' L' r => by
    cases e with
    | normal => exact LS.junk live rfl (hy _ _ r)
    | exit id => exact r
    | ret => exact r
/-- A loop: what holds at each round's head of the slots that are listed. -/
theorem LS.loopJ {rd : Option Nat} {x : Code} {a a₁ : Slots} {L : RL} {R : AExit → Slots → RL → Prop} (live : List Nat) (I : Nat → Slots → RL → Prop) {n : Nat} (e : keepJ live 0 a = a₁) (h₀ : I n a₁ L) (round : ∀ n a L, I n a L → LSr rd P x a L (ThenS (fun a' L' => ∃ m, m < n ∧ I m (keepJ live 0 a') L') R)) : LSr rd P (.loop x) a L R := by
  refine LS.junk live e ?_
  intro h H n₀ ro ρ act w Q hrd hr hd HR hQ
  let J : Nat → Act → World → Prop := fun n act₁ w₁ => ∃ a₁ L₁ h₁ ρ₁, I n a₁ L₁ ∧ Has h₁ L₁ ∧ LRel ρ₁ a₁ act₁.tmps.toList ∧ Marks n₀ ρ₁ h₁ w₁ act₁.defers ∧ HRel P ρ₁ h₁ w₁ ∧ Turn ρ h w ρ₁ h₁ w₁
  refine wpIn_loop_n J (n := n) ⟨a₁, L, h, ρ, h₀, H, hr, hd, HR, Turn.refl _ _ _⟩ ?_
  rintro n act₁ w₁ ⟨a₁, L₁, h₁, ρ₁, hI, H₁, hr₁, hd₁, HR₁, T₁⟩
  refine round n a₁ L₁ hI h₁ H₁ n₀ ro _ _ _ _ (hrd.mono T₁.le) hr₁ hd₁ HR₁ fun e a₂ h₂ ρ₂ act₂ w₂ k hr₂ hd₂ HR₂ T₂ => ?_
  obtain ⟨L₂, k, H₂⟩ := k
  cases e with
  | normal =>
    obtain ⟨m, hm, hI₂⟩ := k
    exact ⟨m, hm, _, L₂, h₂, ρ₂, hI₂, H₂, keepJ_rel hr₂, hd₂, HR₂, T₁.trans T₂⟩
  | exit id => exact hQ (.exit id) a₂ h₂ ρ₂ act₂ w₂ ⟨L₂, k, H₂⟩ hr₂ hd₂ HR₂ (T₁.trans T₂)
  | ret => exact hQ .ret a₂ h₂ ρ₂ act₂ w₂ ⟨L₂, k, H₂⟩ hr₂ hd₂ HR₂ (T₁.trans T₂)

/-- What comes to a value without rows, whatever garbage it leaves, leaves all rows as they are. -/
theorem VRel.plain_eq {ρ : Env} {v u : Value} (h : VRel ρ v u) (hp : Am.plain v = true) : u = v := by
  cases h with
  | agg h => rw [Array.toList_inj.1 (h.flat_eq hp)]
  | tuple h => rw [Array.toList_inj.1 (h.flat_eq hp)]
  | iface h => rw [h.flat_eq hp]
  | ptr _ => simp [Am.plain, flat] at hp
  | map _ => simp [Am.plain, flat] at hp
  | func _ _ _ => simp [Am.plain, flat] at hp
  | yield _ => simp [Am.plain, flat] at hp
  | slice _ _ _ => simp [Am.plain, flat] at hp
  | any _ => simp [Am.plain, flat] at hp
  | _ => rfl
def allPlain : List Value → Bool
  | [] => true
  | v :: vs => Am.plain v && allPlain vs
theorem LRel.plain_eq {ρ : Env} : ∀ {vs us : List Value}, LRel ρ vs us → allPlain vs = true → us = vs
  | _, _, .nil, _ => rfl
  | _, _, .cons a b, h => by
    simp only [allPlain, Bool.and_eq_true] at h
    rw [VRel.plain_eq a h.1, LRel.plain_eq b h.2]
theorem LRel.of_plain {ρ : Env} : ∀ {vs : List Value}, allPlain vs = true → LRel ρ vs vs
  | [], _ => .nil
  | v :: vs, h => by
    simp only [allPlain, Bool.and_eq_true] at h
    exact .cons (.of_plain h.1) (LRel.of_plain h.2)
theorem Has.empty : Has AW.empty [] := ⟨fun p hp => (by cases hp), List.nodup_nil, fun p hp => (by cases hp), by decide⟩
theorem CQ.still {f : FuncId} {args : List Value} {R : Value → Prop} (c : CS P f args [] fun v _ => R v ∧ Am.plain v = true) (ha : allPlain args = true) : ∀ h, CQ P f args h fun v h' => R v ∧ h' = h := by
  intro h
  have c := c AW.empty Has.empty
  refine ⟨c.1, fun ρ us w hus HR => ?_⟩
  have hus' := hus.plain_eq ha
  subst hus'
  refine (c.2 (fun _ => none) us w (.of_plain ha) (empty_rel w)).mono ?_
  rintro en w' ⟨v, h', u, ρ', rfl, ⟨L', ⟨hv, hp⟩, _⟩, hvu, H', T⟩
  have hu := hvu.plain_eq hp
  subst hu
  have keep : ∀ k, k < w.heap.size → w'.heap[k]? = w.heap[k]? := fun k hk => T.keep k hk fun r row l hr => (by cases hr)
  refine ⟨u, h, u, ρ, rfl, ⟨hv, rfl⟩, .of_plain hp, ⟨fun r row hr => ?_, HR.inj, HR.fresh, HR.step⟩, ⟨Env.le_refl _, T.os, T.tape, T.output, T.size, fun r row l hr ho hl _ => ⟨r, row, l, hr, ho, hl, rfl⟩, fun k hk _ => keep k hk, fun _ _ e => .inl e, ⟨0, by simp⟩, rfl⟩⟩
  obtain ⟨l, hl, hr'⟩ := HR.loc r row hr
  exact ⟨l, hl, hr'.keep (Env.le_refl _) (keep _ hr'.lt)⟩
theorem CS.still {f : FuncId} {args : List Value} {R : Value → Prop} {L : RL} (c : CS P f args [] fun v _ => R v ∧ Am.plain v = true) (ha : allPlain args = true) : CS P f args L fun v L' => R v ∧ L' = L :=
  fun h H => (CQ.still c ha h).mono fun v h' ⟨hr, hh⟩ => ⟨L, ⟨hr, rfl⟩, hh ▸ H⟩
theorem CS.closed_true (hg : noGo P = true) (hmix : P.follows .mixedOrders = true) {fuel depth : Nat} {f : FuncId} {L : RL} (e : answersTrue P nothing fuel depth f = true) : CS P f [] L fun v L' => v = .bool true ∧ L' = L := by
  unfold answersTrue at e
  split at e
  · rename_i b h' hcall
    subst e
    exact CS.closed hg hmix nothing_sound rfl rfl hcall
  · cases e
/-- Rows that are not named any more behind a call. -/
theorem CS.less {f : FuncId} {args : List Value} {L : RL} {R R' : Value → RL → Prop} (c : CS P f args L R) (hr : ∀ v L', R v L' → ∃ L'', Sub L'' L' ∧ R' v L'') : CS P f args L R' :=
  fun h H => (c h H).mono fun v h' ⟨L', r, H'⟩ => let ⟨L'', s, r'⟩ := hr v L' r; ⟨L'', r', s.has H'⟩
theorem Sub.two {M : RL} {a b c : Nat × ARow} : Sub (a :: M) (a :: b :: c :: M) := ⟨[b, c], List.Perm.cons _ (by simpa using List.perm_append_comm (l₁ := [b, c]) (l₂ := M))⟩
/-- What a named result's cell has. -/
theorem res_cell (i : Nat) {x r off : Nat} {t : TypeId} {row : ARow} {cs : List Value} {v : Value} (hx : a[x]? = some (.pointer (some ⟨r, off, none⟩))) (hL : L[i]? = some (r, row)) (hc : rdRow row = some cs) (hv : partB P t cs off = some v) : ∀ h, Has h L → resultsB P a h [.cell x t] = some [v] := by
  intro h H
  simp only [resultsB, hx, loadB, H.read hL hc, hv]
end
end Go.Am

/- The abstract machine over listed rows: how a call is entered, from a world that is there. -/
namespace Go.Am
set_option linter.unusedVariables false
section
variable {P : Program} {ρ : Env} {h : AW} {w : World} {L : RL}

/-- A row that is read only is named. -/
theorem enter1 (HR : HRel P ρ h w) (ro : ∀ r row, h.get r = some row → row.own = false) (H : Has h L) (l : Loc) (cs : List Value) (hb : l.block < w.heap.size)
    (hc : ∀ i v, cs[i]? = some v → w.cell? ⟨l.block, l.base + i, none⟩ = some v ∧ flat v = true) :
    ∃ r ρ' h', ρ.le ρ' ∧ ρ' r = some l ∧ HRel P ρ' h' w ∧ (∀ r row, h'.get r = some row → row.own = false) ∧ Has h' ((r, .ro cs) :: L) := by
  obtain ⟨h', e⟩ := h.new_some (.ro cs)
  obtain ⟨_, hg, hn, hs⟩ := new_eq e
  have hnone : ρ h.next = none := HR.fresh0
  have le := upd_le (l := l) hnone
  have ro' : ∀ r row, h'.get r = some row → row.own = false := fun r row hr => by
    rw [hg] at hr
    split at hr
    · simp at hr; subst hr; rfl
    · exact ro r row hr
  refine ⟨h.next, upd ρ h.next l, h', le, by simp [upd], ⟨fun r row hr => ?_, fun r r' row row' l₁ l₂ h1 h2 _ _ _ ho => ?_, fresh_upd HR rfl hn hs, by rw [hs]; exact HR.step⟩, ro', H.new e⟩
  · rw [hg] at hr
    split at hr
    · simp at hr; subst hr; subst_vars
      exact ⟨l, by simp [upd], hb, fun i v hv => ⟨v, (hc i v hv).1, .of_flat (hc i v hv).2⟩⟩
    · obtain ⟨l', hl', hr'⟩ := HR.loc r row hr
      exact ⟨l', le _ _ hl', hr'.keep le rfl⟩
  · rw [ro' r row h1, ro' r' row' h2] at ho; simp at ho

/-- A list that is read only. -/
def RO (sz : Nat) (L : RL) (v : Value) (n : Nat) (cs : List Value) : Prop :=
  (v = .slice none 0 0 ∧ n = 0 ∧ cs = []) ∨ ∃ r cap, v = .slice (some ⟨r, 0, none⟩) n cap ∧ n ≤ cap ∧ cap < openCap ∧ (r, .ro cs) ∈ L ∧ cs.length = n * sz
theorem RO.sv {sz n : Nat} {v : Value} {cs : List Value} (h : RO sz L v n cs) : SV sz L v n cs := by
  rcases h with h | ⟨r, cap, h1, _, _, h4, h5⟩
  · exact .inl h
  · exact .inr ⟨r, 0, cap, _, cs, h1, h4, rfl, cut_all h5⟩
theorem RO.mono {sz n : Nat} {v : Value} {cs : List Value} {L' : RL} (h : RO sz L v n cs) (hm : ∀ p, p ∈ L → p ∈ L') : RO sz L' v n cs := by
  rcases h with h | ⟨r, cap, h1, h2, h3, h4, h5⟩
  · exact .inl h
  · exact .inr ⟨r, cap, h1, h2, h3, hm _ h4, h5⟩
theorem enter_slice (HR : HRel P ρ h w) (ro : ∀ r row, h.get r = some row → row.own = false) (H : Has h L) {A : Option Addr} {n c sz : Nat} {cs : List Value} (hA : (A = none ∧ n = 0 ∧ c = 0) ∨ ∃ a, A = some a ∧ a.spot = none ∧ a.block < w.heap.size ∧ n ≤ c ∧ c < openCap)
    (hl : cs.length = n * sz) (hf : allFlat cs = true) (hc : 0 < n → ∃ a, A = some a ∧ ∀ j u, cs[j]? = some u → w.cell? (a.add j) = some u) :
    ∃ v ρ' h' L', ρ.le ρ' ∧ VRel ρ' v (.slice A n c) ∧ HRel P ρ' h' w ∧ (∀ r row, h'.get r = some row → row.own = false) ∧ Has h' L' ∧ RO sz L' v n cs ∧ (∀ p, p ∈ L → p ∈ L') := by
  rcases hA with ⟨rfl, rfl, rfl⟩ | ⟨a, rfl, hs, hb, hnc, hco⟩
  · exact ⟨.slice none 0 0, ρ, h, L, Env.le_refl _, .sliceNil, HR, ro, H, .inl ⟨rfl, rfl, List.eq_nil_of_length_eq_zero (by simpa using hl)⟩, fun _ hp => hp⟩
  · obtain ⟨bl, off, spot⟩ := a
    simp only at hs
    subst hs
    have hfl : ∀ (i : Nat) (v : Value), cs[i]? = some v → flat v = true := by
      clear hl hc
      induction cs with
      | nil => intro i v hv; simp at hv
      | cons x xs ih =>
        simp only [allFlat] at hf
        split at hf
        · rename_i hx
          intro i v hv
          cases i with
          | zero => simp at hv; subst hv; exact hx
          | succ i => simp at hv; exact ih hf i v hv
        · cases hf
    obtain ⟨r, ρ', h', le, hr, HR', ro', H'⟩ := enter1 HR ro H ⟨bl, off, 0, 0⟩ cs hb fun i v hv => by
      have hn : 0 < n := by
        rcases Nat.eq_zero_or_pos n with h0 | h0
        · subst h0
          have : cs = [] := List.eq_nil_of_length_eq_zero (by simpa using hl)
          subst this; simp at hv
        · exact h0
      obtain ⟨a, ha, hcell⟩ := hc hn
      simp at ha; subst ha
      have := hcell i v hv
      rw [add_eq] at this
      exact ⟨this, hfl i v hv⟩
    refine ⟨.slice (some ⟨r, 0, none⟩) n c, ρ', h', _, le, ?_, HR', ro', H', .inr ⟨r, c, rfl, hnc, hco, by simp, hl⟩, fun p hp => List.mem_cons_of_mem _ hp⟩
    exact .slice hnc (fun _ => rfl) fun _ => ⟨_, hr, rfl, fun hh => by omega⟩

theorem enter0 (w : World) : HRel P (fun _ => none) AW.empty w ∧ (∀ r row, AW.empty.get r = some row → row.own = false) ∧ Has AW.empty [] :=
  ⟨empty_rel w, fun r row hr => (by cases hr), Has.empty⟩

/-- What a call comes to, as the kit tells it. -/
theorem calls_true {f : FuncId} {args us : List Value} (c : CS P f args L fun v _ => v = .bool true) (hr : LRel ρ args us) (HR : HRel P ρ h w) (ro : ∀ r row, h.get r = some row → row.own = false) (H : Has h L) :
    Calls P f ⟨us⟩ w fun e w' => e = .returned (.bool true) ∧ RowKit.Below w.heap.size w w' := by
  refine ((c h H).2 ρ us w hr HR).mono ?_
  rintro en w' ⟨v, h', u, ρ', rfl, ⟨L', rfl, _⟩, hv, H', T⟩
  cases hv
  exact ⟨rfl, T.os, T.tape, T.output, T.size, fun k hk => T.keep k hk fun r row l hr' ho => by rw [ro r row hr'] at ho; cases ho⟩
end

/-- What may be said of a slice that is handed in. -/
theorem okSlice {P : Program} {w : World} {r : Reach} {base : Nat} {t e : TypeId} {A : Option Addr} {n c : Nat} (ht : P.underlying t = some (.slice e)) (h : Value.okWide P w r base t (.slice A n c)) : (A = none ∧ n = 0 ∧ c = 0) ∨ ∃ a, A = some a ∧ a.spot = none ∧ a.block < w.heap.size ∧ n ≤ c ∧ c < openCap := by
  simp only [Value.okWide, ht, Cell.okWide] at h
  cases A with
  | none =>
    simp only [Cell.ok, ht] at h
    split at h <;> simp_all
  | some a =>
    simp only [Cell.ok, ht] at h
    obtain ⟨h1, h2, _, h3, row, cells, h4, _⟩ := h
    refine .inr ⟨a, rfl, h3, ?_, h1, ?_⟩
    · unfold World.shape? at h4
      cases hb : w.heap[a.block]? with
      | none => simp [hb] at h4
      | some o => exact (Array.getElem?_eq_some_iff.1 hb).1
    · have : IntKind.i64.max = 9223372036854775807 := by decide
      rw [this] at h2
      unfold openCap; omega
end Go.Am

/- The abstract machine over listed rows: maps. -/
namespace Go.Am
set_option linter.unusedVariables false
section
variable {P : Program} {o : Oper} {a : Slots} {L L₁ : RL} {x y z : Operand} {t : TypeId}

theorem e_makeMap {r : Option Operand} {hint : Option Value} (ho : o.op = .makeMap t r) (hr : optEv a r = some hint) (hm : makeMapB P t hint = true) :
    ∀ h, Has h L → ∃ q h₁, opB P a o h = some (.val (.map (some q)) h₁) ∧ Has h₁ ((q, .map [] 0) :: L) := by
  intro h H
  obtain ⟨h₁, e₁⟩ := h.new_some (.map [] 0)
  exact ⟨h.next, h₁, by simp only [opB, ho, hr, hm, e₁, retRow], H.new e₁⟩

theorem e_lookup (i : Nat) {k v : Value} {ok : Bool} {r clock : Nat} {es : List MapEntry} {kt et : TypeId} (ho : o.op = .lookup t x y ok) (hx : aev a x = some (.map (some r))) (hy : aev a y = some k) (ht : P.underlying t = some (.map kt et)) (hk : isKeyB P kt k = true)
    (hL : L[i]? = some (r, .map es clock)) (hf : (match findB k es 0 with | some (some (_, v)) => some (okTuple ok v true) | some none => (match zeroVB P et with | some z => some (okTuple ok z false) | none => none) | none => none) = some v) :
    ∀ h, Has h L → opB P a o h = some (.val v h) := by
  intro h H
  have hg := H.at hL
  have e : lookupB P t (.map (some r)) k ok h = some v := by
    unfold lookupB entriesB
    simp only [ht, hk, hg]
    exact hf
  simp only [opB, ho, hx, hy, e, ret]

/-- How many entries a map has. -/
theorem e_mapLen (i : Nat) {c : Call} {r clock : Nat} {es : List MapEntry} {tm kt et : TypeId} (ho : o.op = .call c) (hc : c.callee = .builtin .len) (ha : evs a c.args.toList = some [.map (some r)]) (ht : c.argTypes[0]? = some tm) (hu : P.underlying tm = some (.map kt et)) (hL : L[i]? = some (r, .map es clock)) :
    ∀ h, Has h L → opB P a o h = some (.val (.int .i64 (es.length : Nat)) h) := by
  intro h H
  have hg := H.at hL
  simp only [opB, ho, ha, callOpB, hc, lenOpB, lenMapB, entriesB, ht, hu, hg, ret, goInt]
/-- An entry goes. -/
theorem e_delete (i : Nat) {c : Call} {k : Value} {r clock : Nat} {es es2 : List MapEntry} {tm kt et : TypeId} (ho : o.op = .call c) (hc : c.callee = .builtin .delete) (ha : evs a c.args.toList = some [.map (some r), k]) (ht : c.argTypes[0]? = some tm) (hu : P.underlying tm = some (.map kt et)) (hk : isKeyB P kt k = true)
    (hL : L[i]? = some (r, .map es clock)) (hf : (match findB k es 0 with | some (some (j, _)) => some (dropE es j) | some none => some es | none => none) = some es2) (hset : setL L i (r, .map es2 clock) = some L₁) :
    ∀ h, Has h L → ∃ h₁, opB P a o h = some (.val (.tuple #[]) h₁) ∧ Has h₁ L₁ := by
  intro h H
  have hg := H.at hL
  obtain ⟨h₁, e₁⟩ := h.put_some r (some (.map es2 clock))
  have := setL_eq hset
  subst this
  refine ⟨h₁, ?_, H.put hL e₁⟩
  have e : deleteB P c.argTypes [.map (some r), k] h = some (.tuple #[], h₁) := by
    unfold deleteB
    simp only [ht, hu, hk, hg]
    cases hfb : findB k es 0 with
    | none => rw [hfb] at hf; cases hf
    | some w =>
      rw [hfb] at hf
      cases w with
      | none =>
        simp only [Option.some.injEq] at hf
        subst hf
        simp only [e₁]
      | some p =>
        obtain ⟨j, u⟩ := p
        simp only [Option.some.injEq] at hf
        subst hf
        simp only [e₁]
  simp only [opB, ho, ha, callOpB, hc, e, ret2]

theorem e_mapUpdate (i : Nat) {k v : Value} {r clock clock2 : Nat} {es es2 : List MapEntry} {kt et : TypeId} (ho : o.op = .mapUpdate t x y z) (hx : aev a x = some (.map (some r))) (hy : aev a y = some k) (hz : aev a z = some v) (ht : P.underlying t = some (.map kt et)) (hk : isKeyB P kt k = true)
    (hL : L[i]? = some (r, .map es clock)) (hf : (match findB k es 0 with | some (some (j, _)) => some (setE k v es j, clock) | some none => some (addE ⟨k, v, clock⟩ es, clock + 1) | none => none) = some (es2, clock2)) (hset : setL L i (r, .map es2 clock2) = some L₁) :
    ∀ h, Has h L → ∃ h₁, opB P a o h = some (.val undef h₁) ∧ Has h₁ L₁ := by
  intro h H
  have hg := H.at hL
  obtain ⟨h₁, e₁⟩ := h.put_some r (some (.map es2 clock2))
  have := setL_eq hset
  subst this
  refine ⟨h₁, ?_, H.put hL e₁⟩
  have e : mapUpdateB P t (.map (some r)) k v h = some h₁ := by
    unfold mapUpdateB
    simp only [ht, hk, hg]
    cases hfb : findB k es 0 with
    | none => rw [hfb] at hf; cases hf
    | some w =>
      rw [hfb] at hf
      cases w with
      | none =>
        simp only [Option.some.injEq, Prod.mk.injEq] at hf
        obtain ⟨rfl, rfl⟩ := hf
        exact e₁
      | some p =>
        obtain ⟨j, u⟩ := p
        simp only [Option.some.injEq, Prod.mk.injEq] at hf
        obtain ⟨rfl, rfl⟩ := hf
        exact e₁
  simp only [opB, ho, hx, hy, hz, e]
theorem e_insert (i : Nat) {k v : Value} {r clock clock2 : Nat} {es es2 : List MapEntry} {kt et : TypeId} (ho : o.op = .insert t x y z) (hx : aev a x = some (.map (some r))) (hy : aev a y = some k) (hz : aev a z = some v) (ht : P.underlying t = some (.map kt et)) (hk : isKeyB P kt k = true)
    (hL : L[i]? = some (r, .map es clock)) (hf : (match findB k es 0 with | some (some (j, _)) => some (setE k v es j, clock) | some none => some (addE ⟨k, v, clock⟩ es, clock + 1) | none => none) = some (es2, clock2)) (hset : setL L i (r, .map es2 clock2) = some L₁) :
    ∀ h, Has h L → ∃ h₁, opB P a o h = some (.val undef h₁) ∧ Has h₁ L₁ := by
  intro h H
  have hg := H.at hL
  obtain ⟨h₁, e₁⟩ := h.put_some r (some (.map es2 clock2))
  have := setL_eq hset
  subst this
  refine ⟨h₁, ?_, H.put hL e₁⟩
  have e : mapUpdateB P t (.map (some r)) k v h = some h₁ := by
    unfold mapUpdateB
    simp only [ht, hk, hg]
    cases hfb : findB k es 0 with
    | none => rw [hfb] at hf; cases hf
    | some w =>
      rw [hfb] at hf
      cases w with
      | none =>
        simp only [Option.some.injEq, Prod.mk.injEq] at hf
        obtain ⟨rfl, rfl⟩ := hf
        exact e₁
      | some p =>
        obtain ⟨j, u⟩ := p
        simp only [Option.some.injEq, Prod.mk.injEq] at hf
        obtain ⟨rfl, rfl⟩ := hf
        exact e₁
  simp only [opB, ho, hx, hy, hz, e]

theorem e_range (i : Nat) {r clock : Nat} {es : List MapEntry} {kt et : TypeId} (ho : o.op = .range t x) (hx : aev a x = some (.map (some r))) (ht : P.underlying t = some (.map kt et)) (hL : L[i]? = some (r, .map es clock)) :
    ∀ h, Has h L → ∃ q h₁, opB P a o h = some (.val (.pointer (some ⟨q, 0, none⟩)) h₁) ∧ Has h₁ ((q, .iter r clock [] clock) :: L) := by
  intro h H
  obtain ⟨h₁, e₁⟩ := h.new_some (.iter r clock [] clock)
  refine ⟨h.next, h₁, ?_, H.new e₁⟩
  have hg := H.at hL
  simp only [opB, ho, hx, rangeB, ht, hg, e₁, retRow, ptrTo]
theorem e_entry (i j : Nat) {r m since clock n : Nat} {seen : List Nat} {es : List MapEntry} {e : MapEntry} (ho : o.op = .entry x) (hx : aev a x = some (.pointer (some ⟨r, 0, none⟩))) (hL : L[i]? = some (r, .iter m since (seen ++ [n]) clock)) (hM : L[j]? = some (m, .map es clock)) (hb : bornB n es = some e) :
    ∀ h, Has h L → opB P a o h = some (.val (.tuple #[e.key, e.val]) h) := by
  intro h H
  have h1 := H.at hL
  have h2 := H.at hM
  have h3 : lastN (seen ++ [n]) = some n := by rw [lastN_eq]; simp
  have h4 : Nat.beq clock clock = true := beq_true rfl
  simp only [opB, ho, hx, entryB, h1, h2, h3, h4, hb, ret]
theorem OS.next {ops rest : List Oper} {K : Slots → RL → Prop} (i j : Nat) {r m since last clock : Nat} {seen : List Nat} {es : List MapEntry} (hw : wantedB ops o a = true) (ho : o.op = .next x false) (hx : aev a x = some (.pointer (some ⟨r, 0, none⟩)))
    (hL : L[i]? = some (r, .iter m since seen last)) (hM : L[j]? = some (m, .map es clock)) (hold : ∀ e ∈ es, e.born < since) (hsl : since ≤ last)
    (kdone : (∀ e ∈ es, e.born ∈ seen) → ∃ a₁, putAt a o.dst (.tuple #[.bool false]) = some a₁ ∧ OS P ops rest a₁ L K)
    (kstep : ∀ e ∈ es, e.born ∉ seen → ∃ a₁, putAt a o.dst (.tuple #[.bool true, e.key, e.val]) = some a₁ ∧ ∃ L₁, setL L i (r, .iter m since (seen ++ [e.born]) clock) = some L₁ ∧ OS P ops rest a₁ L₁ K) : OS P ops (o :: rest) a L K := fun h H =>
  OQ.next hw ho hx (H.at hL) (H.at hM) hold hsl (fun hd => let ⟨a₁, e, k⟩ := kdone hd; ⟨a₁, e, k h H⟩) (fun e he hn => by
    obtain ⟨a₁, ep, L₁, hs, k⟩ := kstep e he hn
    obtain ⟨h₁, e₁⟩ := h.put_some r (some (.iter m since (seen ++ [e.born]) clock))
    have := setL_eq hs
    subst this
    exact ⟨a₁, h₁, ep, e₁, k h₁ (H.put hL e₁)⟩)

/-! ### Functions that the model stands in for; unsafe -/
theorem OS.ext {ops rest : List Oper} {K : Slots → RL → Prop} {f : FuncId} {args : List Value} {v : Value} {a₁ : Slots} (hx : Ext P f args v) (hw : wantedB ops o a = true) (e : ∀ h, opB P a o h = some (.call f args)) (ep : putAt a o.dst v = some a₁) (k : OS P ops rest a₁ L K) : OS P ops (o :: rest) a L K :=
  fun h H => OQ.ext hx hw (e h) ep (k h H)
theorem e_toUnsafe (i : Nat) {src dst t' e : TypeId} {r off n : Nat} {cs : List Value} (ho : o.op = .convert src dst x) (hx : aev a x = some (.pointer (some ⟨r, off, none⟩))) (hs : P.underlying src = some (.pointer t')) (hd : P.underlying dst = some .unsafePointer) (hz : sizeB P t' = some (n + 1))
    (hL : L[i]? = some (r, .cells e cs)) (hlt : off < cs.length) : ∀ h, Has h L → opB P a o h = some (.val (.pointer (some ⟨r, off, none⟩)) h) := by
  intro h H
  have h1 : Nat.ble (off + 1) cs.length = true := Nat.ble_eq_true_of_le hlt
  simp only [opB, ho, hx, convB, hs, hd, hz, H.row hL, h1, ret2]
theorem e_fromUnsafe (i : Nat) {src dst e : TypeId} {r n : Nat} {cs : List Value} (ho : o.op = .convert src dst x) (hx : aev a x = some (.pointer (some ⟨r, 0, none⟩))) (hs : P.underlying src = some .unsafePointer) (hd : P.underlying dst = some (.pointer e)) (hz : sizeB P e = some (n + 1))
    (hL : L[i]? = some (r, .cells e cs)) (hsl : slidB P e = false) (hle : n + 1 ≤ cs.length) : ∀ h, Has h L → opB P a o h = some (.val (.pointer (some ⟨r, 0, none⟩)) h) := by
  intro h H
  have h1 : Nat.ble (n + 1) cs.length = true := Nat.ble_eq_true_of_le hle
  simp only [opB, ho, hx, convB, hs, hd, hz, H.row hL, hsl, h1, Nat.beq_refl, Bool.not_false, Bool.and_self, ret2]
theorem e_fromFirst (i : Nat) {src dst e u : TypeId} {r n : Nat} {cs : List Value} (ho : o.op = .convert src dst x) (hx : aev a x = some (.pointer (some ⟨r, 0, none⟩))) (hs : P.underlying src = some .unsafePointer) (hd : P.underlying dst = some (.pointer u)) (hz : sizeB P u = some (n + 1))
    (hL : L[i]? = some (r, .cells e cs)) (hsl : slidB P e = false) (hf : headB P e u = true) (hne : Nat.beq e u = false) (hle : wholeB P e cs.length = true) : ∀ h, Has h L → opB P a o h = some (.val (.pointer (some ⟨r, 0, none⟩)) h) := by
  intro h H
  simp only [opB, ho, hx, convB, hs, hd, hz, H.row hL, hsl, hf, hne, hle, Nat.beq_refl, Bool.not_false, Bool.and_self, Bool.false_and, ret2]
theorem e_data {c : Call} {r off n cap : Nat} (ho : o.op = .call c) (hc : c.callee = .builtin .unsafeSliceData) (ha : evs a c.args.toList = some [.slice (some ⟨r, off, none⟩) n cap]) (hn : 1 ≤ n) : ∀ h, opB P a o h = some (.val (.pointer (some ⟨r, off, none⟩)) h) := by
  intro h
  obtain ⟨k, rfl⟩ : ∃ k, n = k + 1 := ⟨n - 1, by omega⟩
  simp only [opB, ho, ha, callOpB, hc, dataB, ret]
theorem e_unsafe (i : Nat) {c : Call} {pt e : TypeId} {r n : Nat} {bs : List UInt8} (ho : o.op = .call c) (hc : c.callee = .builtin .unsafeString) (ha : evs a c.args.toList = some [.pointer (some ⟨r, 0, none⟩), .int .i64 (n : Int)]) (ht : c.argTypes[0]? = some pt) (hp : P.underlying pt = some (.pointer e)) (hu : P.underlying e = some (.int .u8)) (h1 : u8OneB P e = true)
    (hL : L[i]? = some (r, .cells e (byteCells bs))) (hn : bs.length = n) (hn1 : 1 ≤ n) (hn2 : (n : Int) ≤ 9223372036854775807) (hd : dropL L i = some L₁) : ∀ h, Has h L → ∃ h₁, opB P a o h = some (.val (.string ⟨⟨bs⟩⟩) h₁) ∧ Has h₁ L₁ := by
  intro h H
  obtain ⟨h₁, e₁⟩ := h.put_some r none
  have hb : (ileB 1 (n : Int) && ileB (n : Int) 9223372036854775807) = true := by rw [Bool.and_eq_true, ileB_iff, ileB_iff]; omega
  have hcut : cut (byteCells bs) 0 ((n : Int)).toNat = some (byteCells bs) := by rw [Int.toNat_natCast]; exact cut_all (by rw [byteCells_len]; exact hn)
  have hu8 : isU8 P e = true := by simp only [isU8, hu]
  have hdr := dropL_eq hd
  subst hdr
  refine ⟨h₁, ?_, H.drop hL e₁⟩
  simp only [opB, ho, ha, callOpB, hc, unsafeB, ht, hp, H.row hL, hb, hu8, h1, Nat.beq_refl, Bool.and_self, hcut, bytesOfB_cells, e₁, ret2]
end
end Go.Am

