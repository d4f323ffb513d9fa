/- Closed runs: calls that are known by their contracts. -/
import Derived.Test.YtmdcfnnoeimakaaGreatDoorCg
namespace Go.Am
open Go.MapKept
set_option linter.unusedVariables false
section
variable {P : Program}
/-- A call that needs no rows and makes one of its own: whatever rows there are, it stands behind the others. -/
theorem CQ.fresh {f : FuncId} {args : List Value} {row : ARow} {V : Nat → Value} (ha : allPlain args = true) (c : CQ P f args AW.empty fun v g => ∃ r, v = V r ∧ g.get r = some row) (hown : row.own = true)
    (hV : ∀ (ρ ρ' : Env) r r' l u, ρ r = some l → ρ' r' = some l → VRel ρ (V r) u → VRel ρ' (V r') u) (hR : ∀ (ρ ρ' : Env) w l, RowRel P ρ w l row → RowRel P ρ' w l row) {h h' : AW} {rn : Nat} (e : h.new row = some (rn, h')) :
    CQ P f args h fun v g => v = V rn ∧ g = h' := by
  refine ⟨c.1, fun ρ us w hus HR => ?_⟩
  have hus' := hus.plain_eq ha
  subst hus'
  refine (c.2 (fun _ => none) us w (.of_plain ha) (empty_rel w)).mono ?_
  rintro en w' ⟨v, g, u, ρ', rfl, ⟨r, rfl, hg⟩, hvu, H', T⟩
  have keep : ∀ k, k < w.heap.size → w'.heap[k]? = w.heap[k]? := fun k hk => T.keep k hk fun r row l hr => (by cases hr)
  obtain ⟨l, hl, hrow⟩ := H'.loc r _ hg
  have hge : w.heap.size ≤ l.block := by
    rcases Nat.lt_or_ge l.block w.heap.size with hlt | hge
    · obtain ⟨r₀, row₀, l₀, hg0, _⟩ := T.own r _ l hg hown hl hlt
      cases hg0
    · exact hge
  have HR' : HRel P ρ h w' := ⟨fun r row hr => by
    obtain ⟨l', hl', hr'⟩ := HR.loc r row hr
    exact ⟨l', hl', hr'.keep (Env.le_refl _) (keep _ hr'.lt)⟩, HR.inj, HR.fresh, HR.step⟩
  have hnone : ρ rn = none := by rw [(new_eq e).1]; exact HR.fresh0
  have hlt : ∀ m row lm, h.get m = some row → ρ m = some lm → lm.block < w.heap.size := fun m row lm hm hlm => by
    obtain ⟨l', hl', hr'⟩ := HR.loc m row hm
    rw [hlm] at hl'; simp only [Option.some.injEq] at hl'; subst hl'
    exact hr'.lt
  have hup : upd ρ rn l rn = some l := by simp [upd]
  have H₂ := HR'.reveal e (fun m row lm hm hlm => by have := hlt m row lm hm hlm; omega) (hR _ _ _ _ hrow)
  refine ⟨V rn, h', u, upd ρ rn l, rfl, ⟨rfl, rfl⟩, hV _ _ _ _ _ _ hl hup hvu, H₂, ?_⟩
  have T₀ : Turn ρ h w ρ h w' := ⟨Env.le_refl _, T.os, T.tape, T.output, T.size, fun r row l hr ho hl _ => ⟨r, row, l, hr, ho, hl, rfl⟩, fun k hk _ => keep k hk, fun _ _ e => .inl e, ⟨0, by simp⟩, rfl⟩
  exact T₀.reveal hnone e hge
theorem rowRel_flat {e : TypeId} {cs : List Value} (hf : allFlat cs = true) (ρ ρ' : Env) (w : World) (l : Loc) (h : RowRel P ρ w l (.cells e cs)) : RowRel P ρ' w l (.cells e cs) := by
  obtain ⟨C, f, a, b, c, d, s, g⟩ := h
  refine ⟨C, f, a, b, c, d, s, fun i v hv => ?_⟩
  obtain ⟨x, hx, hr⟩ := g i v hv
  have hfv := allFlat_get hf hv
  have := hr.flat_eq hfv
  subst this
  exact ⟨_, hx, .of_flat hfv⟩
/-- A list in a row of its own, and a number beside it. -/
theorem vRel_two {n cap : Nat} {k : IntKind} {x : Int} (ρ ρ' : Env) (r r' : Nat) (l : Loc) (u : Value) (h1 : ρ r = some l) (h2 : ρ' r' = some l) (h : VRel ρ (.tuple #[.slice (some ⟨r, 0, none⟩) n cap, .int k x]) u) : VRel ρ' (.tuple #[.slice (some ⟨r', 0, none⟩) n cap, .int k x]) u := by
  cases h with
  | tuple h =>
    rename_i b
    obtain ⟨b⟩ := b
    cases h with
    | cons ha hb =>
      cases hb with
      | cons hb hc =>
        cases hc
        refine .tuple (.cons ?_ (.cons ?_ .nil))
        · cases ha with
          | slice a b hc =>
            exact .slice a b fun hz => by
              obtain ⟨l2, h3, e2, e3⟩ := hc hz
              rw [h1] at h3
              simp only [Option.some.injEq] at h3
              subst h3
              exact ⟨_, h2, e2, e3⟩
        · cases hb; exact .int _ _
end
end Go.Am
