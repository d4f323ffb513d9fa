/- Interface values: what one holds is told by a type assertion or a type switch. -/
import Derived.Test.YtllcbjaajffaeaaAmZ
namespace Go.Am
set_option linter.unusedVariables false
section
variable {P : Program} {ops rest : List Oper} {o : Oper} {a a₁ : Slots} {h : AW} {v : Value}
/-- An operation that leaves the world as it is. -/
theorem OQ.stay {K : Slots → AW → Prop} (hw : wantedB ops o a = true) (hnd : ∀ c, o.op ≠ .defer c) (e : ∀ (ρ : Env) (act : Act) w, LRel ρ a act.tmps.toList → HRel P ρ h w → ∃ u, (execOp act.eval o).run P w = .ok (.value u) w ∧ VRel ρ v u)
    (ep : putAt a o.dst v = some a₁) (k : OQ P ops rest a₁ h K) : OQ P ops (o :: rest) a h K := by
  intro ro ds opsA i ρ act w Q ho hd hr hdf H hQ
  obtain ⟨hoi, hrest⟩ := drop_at ho hd
  simp only [List.length_cons, List.range'_succ, wpOpsIn, hoi]
  rw [← wantedB_eq hr (by rw [ho]; exact sure_of_wanted hw), ho, hw, if_pos rfl]
  obtain ⟨u, hrun, hv⟩ := e ρ act w hr H
  have hnext := k ro _ _ _ _ _ _ Q ho hrest (putAt_rel ep hr hv) (by rw [put_defers]; exact hdf) H hQ
  refine ⟨fun _ _ => trivial, ?_⟩
  rw [Oper.semAt_eq _ _ _ hnd, hrun]
  exact hnext
/-- What an assertion tells. -/
def assertB (P : Program) (t : TypeId) (ok : Bool) : Value → Option Value
  | .iface d v => match P.underlying t with
    | some (.interface _) => none
    | some _ => match Nat.beq d t with
      | true => match ok with
        | true => some (.tuple #[v, .bool true])
        | false => some v
      | false => match ok with
        | true => match zeroVB P t with
          | some z => some (.tuple #[z, .bool false])
          | none => none
        | false => none
    | none => none
  | .nilIface => match ok with
    | true => match P.underlying t, zeroVB P t with
      | some _, some z => some (.tuple #[z, .bool false])
      | _, _ => none
    | false => none
  | _ => none
theorem plain_zero {ρ : Env} {z : Value} (h : plain z = true) : VRel ρ z z := by
  have := LRel.of_plain (ρ := ρ) (vs := [z]) (by simp [allPlain, h])
  cases this with
  | cons h1 _ => exact h1
theorem run_assert_am {ρ : Env} {w : World} {t xt : TypeId} {ok : Bool} {x u v : Value} (e : assertB P t ok x = some v) (hx : VRel ρ x u) : ∃ z, (Instr.typeAssert u xt t ok).run P w = .ok z w ∧ VRel ρ v z := by
  unfold assertB at e
  split at e
  case h_3 => cases e
  · rename_i d v0
    cases hx with
    | iface hv =>
      rename_i u0
      split at e
      case h_1 => cases e
      case h_3 => cases e
      rename_i D hni hD
      have hu := run_underlying (w := w) hD
      split at e
      · rename_i hb
        have hdt : d = t := of_beq hb
        subst hdt
        split at e
        · simp only [Option.some.injEq] at e; subst e
          refine ⟨.tuple #[u0, .bool true], ?_, .tuple (.cons hv (.cons (.bool _) .nil))⟩
          unfold Instr.typeAssert
          cases D <;> first | (exact (hni _ rfl).elim) | simp [hu]
        · simp only [Option.some.injEq] at e; subst e
          refine ⟨u0, ?_, hv⟩
          unfold Instr.typeAssert
          cases D <;> first | (exact (hni _ rfl).elim) | simp [hu]
      · rename_i hb
        have hdt : ¬ d = t := fun he => by subst he; rw [beq_true rfl] at hb; cases hb
        split at e
        case h_2 => cases e
        split at e
        case h_2 => cases e
        rename_i z hz
        simp only [Option.some.injEq] at e; subst e
        obtain ⟨hzr, hzp⟩ := run_zeroV hz w
        refine ⟨.tuple #[z, .bool false], ?_, .tuple (.cons (plain_zero hzp) (.cons (.bool _) .nil))⟩
        unfold Instr.typeAssert
        cases D <;> first | (exact (hni _ rfl).elim) | simp [hu, hdt, hzr]
  · cases hx
    split at e
    case h_2 => cases e
    split at e
    case h_2 => cases e
    rename_i D z hD hz
    simp only [Option.some.injEq] at e; subst e
    have hu := run_underlying (w := w) hD
    obtain ⟨hzr, hzp⟩ := run_zeroV hz w
    refine ⟨.tuple #[z, .bool false], ?_, .tuple (.cons (plain_zero hzp) (.cons (.bool _) .nil))⟩
    unfold Instr.typeAssert
    cases D <;> simp [hu, hzr]
theorem OS.assert {L : RL} {K : Slots → RL → Prop} {x : Operand} {xt t : TypeId} {ok : Bool} {y : Value} (hw : wantedB ops o a = true) (ho : o.op = .typeAssert x xt t ok) (hx : aev a x = some y) (e : assertB P t ok y = some v) (ep : putAt a o.dst v = some a₁) (k : OS P ops rest a₁ L K) : OS P ops (o :: rest) a L K :=
  fun h H => OQ.stay hw (fun c hc => by rw [ho] at hc; cases hc) (fun ρ act w hr HR => by
    obtain ⟨z, hz, hv⟩ := run_assert_am (w := w) (xt := xt) e (aev_rel hr hx)
    exact ⟨z, by simp only [execOp, ho]; simp [hz], hv⟩) ep (k h H)
end
end Go.Am
