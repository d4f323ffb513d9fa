/- Closed runs: in a region that draws its order, rows that are laid early. -/
import Derived.Test.YtmdcfnnoeimakaaGreatDoorCv
namespace Go.Am
open Go.MapKept
set_option linter.unusedVariables false
noncomputable section

/-- How a new row of cells is told: by its pointer, or as a list. -/
def mkF : Option (Nat × Nat) → Nat → Value
  | none, r => ptrTo r
  | some (l, c), r => .slice (some ⟨r, 0, none⟩) l c
abbrev FI := TypeId × List Value × Option (Nat × Nat)
/-- An operation that does nothing but lay a new row of zero values: which ones. -/
def frB (P : Program) (a : Slots) (o : Oper) : Option FI :=
  match o.guard with
  | some _ => none
  | none => match o.op with
    | .alloc e => match zerosB P e, sizeB P e with
      | some cs, some _ => match allFlat cs with
        | true => some (e, cs, none)
        | false => none
      | _, _ => none
    | .makeSlice t x y => match P.underlying t, aev a x, aev a y with
      | some (.slice e), some (.int _ l), some (.int _ c) => match P.info? e, zerosB P e with
        | some i, some zs => match (ileB 0 l && ileB l c) && (smallB c.toNat i.bytes && (Nat.beq zs.length i.size && Nat.ble c.toNat 140737488355328)), rep zs c.toNat with
          | true, some cs => match allFlat cs with
            | true => some (e, cs, some (l.toNat, c.toNat))
            | false => none
          | _, _ => none
        | _, _ => none
      | _, _, _ => none
    | _ => none

section
variable {P : Program}
theorem frB_op {a : Slots} {o : Oper} {e : TypeId} {cs : List Value} {k : Option (Nat × Nat)} (hf : frB P a o = some (e, cs, k)) : o.guard = none ∧ allFlat cs = true ∧ ∀ h : AW, ∃ h', h.new (.cells e cs) = some (h.next, h') ∧ opB P a o h = some (.val (mkF k h.next) h') := by
  unfold frB at hf
  split at hf
  case h_1 => cases hf
  rename_i hg
  split at hf
  case h_3 => cases hf
  · rename_i e' ho
    split at hf
    case h_2 => cases hf
    rename_i cs' n hz hs
    split at hf
    case h_2 => cases hf
    rename_i hfl
    simp only [Option.some.injEq, Prod.mk.injEq] at hf
    obtain ⟨rfl, rfl, rfl⟩ := hf
    refine ⟨hg, hfl, fun h => ?_⟩
    obtain ⟨h', e₁⟩ := h.new_some (.cells e' cs')
    exact ⟨h', e₁, by simp only [opB, ho, hz, newCells, hs, e₁, retRow, mkF]⟩
  · rename_i t x y ho
    split at hf
    case h_2 => cases hf
    rename_i e' kl l kc c hu hx hy
    split at hf
    case h_2 => cases hf
    rename_i i zs hi hz
    split at hf
    case h_2 => cases hf
    rename_i cs' hc hrep
    split at hf
    case h_2 => cases hf
    rename_i hfl
    simp only [Option.some.injEq, Prod.mk.injEq] at hf
    obtain ⟨rfl, rfl, rfl⟩ := hf
    refine ⟨hg, hfl, fun h => ?_⟩
    obtain ⟨h', e₁⟩ := h.new_some (.cells e' cs')
    exact ⟨h', e₁, by simp only [opB, ho, hx, hy, makeSliceB, hu, hi, hz, hc, hrep, newCells, sizeB, e₁, retRow, mkF]⟩
theorem frB_congr {a a' : Slots} {o : Oper} (hx : ∀ x ∈ o.op.operands, aev a x = aev a' x) : frB P a o = frB P a' o := by
  unfold frB
  cases o.guard with
  | some _ => rfl
  | none =>
    cases ho : o.op with
    | makeSlice t x y => simp only [hx x (by simp [Op.operands, ho]), hx y (by simp [Op.operands, ho])]
    | _ => rfl
/-- Numbers alone. -/
def onlyInts (a : Slots) : Slots := a.map fun v => match v with
  | .int k n => .int k n
  | _ => .chan none
theorem onlyInts_rel {ρ : Env} : ∀ {a us : List Value}, LRel ρ a us → LRel (fun _ => none) (onlyInts a) us
  | _, _, .nil => .nil
  | _, _, .cons (v := v) h hs => by
    simp only [onlyInts, List.map_cons]
    refine .cons ?_ (onlyInts_rel hs)
    cases v <;> first | exact .any _ | (cases h; exact .int _ _)
theorem aev_ints {a : Slots} {x : Operand} {k : IntKind} {n : Int} (h : aev a x = some (.int k n)) : aev (onlyInts a) x = some (.int k n) := by
  cases x with
  | tmp t => simp only [aev, onlyInts, List.getElem?_map] at h ⊢; rw [h]; rfl
  | const v => exact h
  | global g => simp [aev] at h
  | func f => simp [aev] at h
theorem frB_ints {a : Slots} {o : Oper} {r : FI} (hf : frB P a o = some r) : frB P (onlyInts a) o = some r := by
  unfold frB at hf ⊢
  cases hg : o.guard with
  | some _ => rw [hg] at hf; cases hf
  | none =>
    rw [hg] at hf
    cases ho : o.op with
    | alloc e => rw [ho] at hf; exact hf
    | makeSlice t x y =>
      rw [ho] at hf
      simp only at hf ⊢
      split at hf
      case h_2 => cases hf
      rename_i e' kl l kc c hu hx hy
      rw [hu, aev_ints hx, aev_ints hy]
      exact hf
    | _ => rw [ho] at hf; cases hf
theorem allFlat_get : ∀ {cs : List Value} {i : Nat} {v : Value}, allFlat cs = true → cs[i]? = some v → flat v = true
  | [], i, v, _, h => by simp at h
  | c :: cs, i, v, hf, h => by
    simp only [allFlat] at hf
    split at hf
    case h_2 => cases hf
    rename_i h1
    cases i with
    | zero => simp at h; subst h; exact h1
    | succ i => exact allFlat_get hf (by simpa using h)
theorem frB_run {ρ : Env} {A : Slots} {act : Act} {o : Oper} {w : World} {e : TypeId} {cs : List Value} {k : Option (Nat × Nat)} (hr : LRel ρ A act.tmps.toList) (hf : frB P A o = some (e, cs, k)) :
    ∃ u w' l, (execOp act.eval o).run P w = .ok (.value u) w' ∧ w'.os = w.os ∧ w'.tape = w.tape ∧ w'.output = w.output ∧ w.heap.size ≤ w'.heap.size ∧ (∀ b, b < w.heap.size → w'.heap[b]? = w.heap[b]?) ∧ w.heap.size ≤ l.block ∧
      ∀ (ρ' : Env) r, ρ' r = some l → VRel ρ' (mkF k r) u ∧ RowRel P ρ' w' l (.cells e cs) := by
  have hf' := frB_ints hf
  obtain ⟨hg, hfl, hop⟩ := frB_op hf'
  obtain ⟨h', e₁, hop⟩ := hop AW.empty
  obtain ⟨n, u, w', ρ', hrun, hn, hv, H', T'⟩ := opB_sound (onlyInts_rel hr) (empty_rel w) hop
  have hget : h'.get 0 = some (.cells e cs) := by
    have := (new_eq e₁).2.1 0
    rw [this]; rfl
  obtain ⟨l, hl, hrow⟩ := H'.loc 0 _ hget
  have hv0 : VRel ρ' (mkF k 0) u := hv
  have hn' : n = .value u := by
    rcases hn with hn | ⟨_, rfl⟩
    · exact hn
    · cases k with
      | none => cases hv0
      | some p => cases hv0
  subst hn'
  refine ⟨u, w', l, hrun, T'.os, T'.tape, T'.output, T'.size, fun b hb => T'.keep b hb fun r row l hr => (by cases hr), ?_, fun ρ'' r hρ => ⟨?_, ?_⟩⟩
  · rcases Nat.lt_or_ge l.block w.heap.size with hlt | hge
    · obtain ⟨r₀, row₀, l₀, hg0, _⟩ := T'.own 0 _ l hget rfl hl hlt
      cases hg0
    · exact hge
  · cases k with
    | none =>
      cases hv0 with
      | ptr h2 =>
        rw [hl] at h2
        simp only [Option.some.injEq] at h2
        subst h2
        exact .ptr hρ
    | some p =>
      cases hv0 with
      | slice a b hc =>
        exact .slice a b fun hz => by
          obtain ⟨l2, h2, e2, e3⟩ := hc hz
          rw [hl] at h2
          simp only [Option.some.injEq] at h2
          subst h2
          exact ⟨_, hρ, e2, e3⟩
  · obtain ⟨C, f, a, b, c, d, s, g⟩ := hrow
    refine ⟨C, f, a, b, c, d, s, fun i v hv => ?_⟩
    obtain ⟨x, hx, hr⟩ := g i v hv
    have hfv := allFlat_get hfl hv
    have := hr.flat_eq hfv
    subst this
    exact ⟨_, hx, .of_flat hfv⟩

/-- A row that was laid, and is not named yet. -/
def Pd (P : Program) (w₀ : World) (ρ : Env) (h : AW) (w : World) (tmps : Array Value) (d : Tmp) (x : FI) (b : Nat) : Prop :=
  ∃ u l, tmps[d]? = some u ∧ l.block = b ∧ w₀.heap.size ≤ b ∧ b < w.heap.size ∧ (∀ r row lr, h.get r = some row → row.own = true → ρ r = some lr → lr.block ≠ b) ∧
    ∀ (ρ' : Env) r, ρ' r = some l → VRel ρ' (mkF x.2.2 r) u ∧ RowRel P ρ' w l (.cells x.1 x.2.1)
theorem Pd.turn {w₀ w w' : World} {ρ ρ' : Env} {h h' : AW} {tmps tmps' : Array Value} {d : Tmp} {x : FI} {b : Nat} (p : Pd P w₀ ρ h w tmps d x b) (T : Turn ρ h w ρ' h' w') (ht : tmps'[d]? = tmps[d]?) : Pd P w₀ ρ' h' w' tmps' d x b := by
  obtain ⟨u, l, h1, h2, h3, h4, h5, h6⟩ := p
  refine ⟨u, l, ht.trans h1, h2, h3, Nat.lt_of_lt_of_le h4 T.size, fun r row lr hr ho hl e => ?_, fun ρ'' r hρ => ⟨(h6 ρ'' r hρ).1, ?_⟩⟩
  · obtain ⟨r₀, row₀, l₀, a, bb, c, dd⟩ := T.own r row lr hr ho hl (by rw [e]; exact h4)
    exact h5 r₀ row₀ l₀ a bb c (dd.trans e)
  · exact (h6 ρ'' r hρ).2.keep (Env.le_refl _) (by rw [h2]; exact T.keep b h4 h5)
def OwnAll (h : AW) : Prop := ∀ r row, h.get r = some row → row.own = true
theorem HRel.reveal {ρ : Env} {h h' : AW} {w : World} {r : Nat} {x : ARow} {l : Loc} (H : HRel P ρ h w) (e : h.new x = some (r, h')) (hno : ∀ m row lm, h.get m = some row → ρ m = some lm → lm.block ≠ l.block) (hx : RowRel P (upd ρ r l) w l x) : HRel P (upd ρ r l) h' w := by
  obtain ⟨hr, hg, hn, hs⟩ := new_eq e
  have hnone : ρ r = none := by rw [hr]; exact H.fresh0
  have le := upd_le (l := l) hnone
  refine ⟨?_, ?_, fresh_upd H hr hn hs, by rw [hs]; exact H.step⟩
  · intro m row hm
    rw [hg] at hm
    split at hm
    · simp at hm; subst hm; subst_vars
      exact ⟨l, by simp [upd], hx⟩
    · obtain ⟨l', hl', hr'⟩ := H.loc m row hm
      exact ⟨l', le _ _ hl', hr'.keep le rfl⟩
  · intro a b rowa rowb la lb ha hb hla hlb hab hown
    rw [hg] at ha hb
    unfold upd at hla hlb
    by_cases h1 : a = r
    · by_cases h2 : b = r
      · omega
      · rw [if_pos h1] at hla; rw [if_neg h2] at hlb hb
        simp at hla; subst hla
        exact absurd hab.symm (hno b rowb lb hb hlb)
    · by_cases h2 : b = r
      · rw [if_neg h1] at hla ha; rw [if_pos h2] at hlb
        simp at hlb; subst hlb
        exact absurd hab (hno a rowa la ha hla)
      · rw [if_neg h1] at hla ha; rw [if_neg h2] at hlb hb
        exact H.inj a b rowa rowb la lb ha hb hla hlb hab hown
theorem Turn.reveal {ρ₀ ρ : Env} {h₀ h h' : AW} {w₀ w : World} {r : Nat} {x : ARow} {l : Loc} (T : Turn ρ₀ h₀ w₀ ρ h w) (hnone : ρ r = none) (e : h.new x = some (r, h')) (hb : w₀.heap.size ≤ l.block) : Turn ρ₀ h₀ w₀ (upd ρ r l) h' w := by
  obtain ⟨hr, hg, hn, hs⟩ := new_eq e
  refine ⟨Env.le_trans T.le (upd_le hnone), T.os, T.tape, T.output, T.size, fun m row lm hm hmo hlm hlt => ?_, T.keep, fun m lm hm => ?_, ?_, hs.trans T.steps⟩
  · rw [hg] at hm
    unfold upd at hlm
    by_cases h1 : m = r
    · rw [if_pos h1] at hlm; simp at hlm; subst hlm; omega
    · rw [if_neg h1] at hm hlm
      exact T.own m row lm hm hmo hlm hlt
  · unfold upd at hm
    split at hm
    · obtain ⟨j, hj⟩ := T.next
      exact .inr ⟨j, by subst_vars; exact hj⟩
    · exact T.new m lm hm
  · obtain ⟨j, hj⟩ := T.next
    exact ⟨j + 1, by rw [hn, hj, T.steps, Nat.mul_add, Nat.mul_one, Nat.add_assoc]⟩

/-- They are named, one behind the other. -/
def revB (P : Program) (ops : List Oper) (a : Slots) : List Nat → Slots → AW → Option (Slots × AW)
  | [], b, h => some (b, h)
  | j :: js, b, h => match opAt ops j with
    | some o => match o.dst, frB P a o with
      | some d, some (e, cs, k) => match h.new (.cells e cs) with
        | some (r, h') => match setAt b d (mkF k r) with
          | some b' => revB P ops a js b' h'
          | none => none
        | none => none
      | _, _ => none
    | none => none
theorem setAt_at : ∀ {a a' : Slots} {d : Nat} {v : Value}, setAt a d v = some a' → a'.length = a.length ∧ d < a.length ∧ ∀ t, a'[t]? = if t = d then some v else a[t]? := by
  intro a a' d v e
  have h := putAt_get (d := some d) (v := v) (a := a) (a' := a') (by simpa [putAt] using e)
  obtain ⟨h1, h2, h3⟩ := h
  refine ⟨h1, ?_, fun t => ?_⟩
  · exact h2 d rfl
  · rw [h3]
    by_cases ht : t = d
    · subst ht; simp
    · rw [if_neg ht, if_neg (fun hh => ht (by simpa using hh.symm))]
theorem rev_all {ops : List Oper} {a : Slots} {ρ₀ : Env} {h₀ : AW} {w₀ w : World} {tmps : Array Value} {inf : Nat → FI} {blk : Nat → Nat} (hO : Once ops) : ∀ {js : List Nat} {b b' : Slots} {h h' : AW} {ρ : Env}, revB P ops a js b h = some (b', h') →
    HRel P ρ h w → OwnAll h → Turn ρ₀ h₀ w₀ ρ h w → js.Nodup → (∀ j o d, j ∈ js → ops[j]? = some o → o.dst = some d → frB P a o = some (inf j) ∧ Pd P w₀ ρ h w tmps d (inf j) (blk j)) → (∀ j j', j ∈ js → j' ∈ js → j ≠ j' → blk j ≠ blk j') →
    ∃ ρ', ρ.le ρ' ∧ HRel P ρ' h' w ∧ Turn ρ₀ h₀ w₀ ρ' h' w ∧ b'.length = b.length ∧ (∀ t, (∀ j o, j ∈ js → ops[j]? = some o → o.dst ≠ some t) → b'[t]? = b[t]?) ∧
      ∀ j o d, j ∈ js → ops[j]? = some o → o.dst = some d → ∃ v u, b'[d]? = some v ∧ tmps[d]? = some u ∧ VRel ρ' v u
  | [], b, b', h, h', ρ, e, H, hown, T, _, _, _ => by
    simp [revB] at e
    obtain ⟨rfl, rfl⟩ := e
    exact ⟨ρ, Env.le_refl _, H, T, rfl, fun _ _ => rfl, fun j o d hj => (by cases hj)⟩
  | j :: js, b, b', h, h', ρ, e, H, hown, T, hnd, hpd, hdis => by
    simp only [revB] at e
    split at e
    case h_2 => cases e
    rename_i o ho
    rw [opAt_eq] at ho
    split at e
    case h_2 => cases e
    rename_i d el cs k hd hf
    split at e
    case h_2 => cases e
    rename_i r h₁ e₁
    split at e
    case h_2 => cases e
    rename_i b₁ eb
    obtain ⟨hfr, u, l, p1, p2, p3, p4, p5, p6⟩ := hpd j o d (List.mem_cons_self ..) ho hd
    rw [hf] at hfr
    simp only [Option.some.injEq] at hfr
    have hr := (new_eq e₁).1
    have hnone : ρ r = none := by rw [hr]; exact H.fresh0
    have hno : ∀ m row lm, h.get m = some row → ρ m = some lm → lm.block ≠ l.block := fun m row lm hm hlm => by rw [p2]; exact p5 m row lm hm (hown m row hm) hlm
    have hrow := (p6 (upd ρ r l) r (by simp [upd])).2
    rw [← hfr] at hrow
    have H₁ := H.reveal e₁ hno hrow
    have T₁ := T.reveal hnone e₁ (l := l) (by omega)
    have hown₁ : OwnAll h₁ := fun m row hm => by
      rw [(new_eq e₁).2.1] at hm
      split at hm
      · simp at hm; subst hm; rfl
      · exact hown m row hm
    obtain ⟨q1, q2, q3⟩ := setAt_at eb
    obtain ⟨hnj, hnd⟩ := List.nodup_cons.1 hnd
    obtain ⟨ρ', le, H', T', hl, hot, hin⟩ := rev_all hO e H₁ hown₁ T₁ hnd (fun j' o' d' hj' ho' hd' => by
      obtain ⟨f1, u', l', s1, s2, s3, s4, s5, s6⟩ := hpd j' o' d' (List.mem_cons_of_mem _ hj') ho' hd'
      refine ⟨f1, u', l', s1, s2, s3, s4, fun m row lm hm hmo hlm => ?_, s6⟩
      rw [(new_eq e₁).2.1] at hm
      unfold upd at hlm
      by_cases h1 : m = r
      · rw [if_pos h1] at hlm
        simp at hlm; subst hlm
        rw [p2]
        exact hdis j j' (List.mem_cons_self ..) (List.mem_cons_of_mem _ hj') (fun hh => hnj (hh ▸ hj'))
      · rw [if_neg h1] at hm hlm
        exact s5 m row lm hm hmo hlm) (fun x y hx hy => hdis x y (List.mem_cons_of_mem _ hx) (List.mem_cons_of_mem _ hy))
    refine ⟨ρ', Env.le_trans (upd_le hnone) le, H', T', hl.trans q1, fun t ht => ?_, fun j' o' d' hj' ho' hd' => ?_⟩
    · rw [hot t fun j' o' hj' ho' => ht j' o' (List.mem_cons_of_mem _ hj') ho', q3, if_neg (fun hh => ht j o (List.mem_cons_self ..) ho (by rw [hh]; exact hd))]
    · rcases List.mem_cons.1 hj' with rfl | hj'
      · rw [ho] at ho'; simp only [Option.some.injEq] at ho'; subst ho'
        rw [hd] at hd'; simp only [Option.some.injEq] at hd'; subst hd'
        refine ⟨mkF k r, u, ?_, p1, ?_⟩
        · rw [hot d fun j'' o'' hj'' ho'' hdd => hnj (by rw [← hO j'' j' o'' o d ho'' ho hdd hd]; exact hj''), q3, if_pos rfl]
        · have := (p6 ρ' r (le _ _ (by simp [upd]))).1
          rw [← hfr] at this
          exact this
      · exact hin j' o' d' hj' ho' hd'
end
end
end Go.Am
