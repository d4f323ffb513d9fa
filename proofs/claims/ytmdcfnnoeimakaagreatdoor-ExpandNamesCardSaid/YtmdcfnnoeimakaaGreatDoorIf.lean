/- Interface values: what one holds is told by a type assertion or a type switch. -/
import Derived.Test.YtmdcfnnoeimakaaGreatDoorAmZ
namespace Go.Am
set_option linter.unusedVariables false
section
variable {P : Program} {ops rest : List Oper} {o : Oper} {a a₁ : Slots} {h : AW} {v : Value}
/-- An operation that leaves the world as it is. -/
theorem OQ.stay {K : Slots → AW → Prop} (hw : wantedB ops o a = true) (hnd : ∀ c, o.op ≠ .defer c) (e : ∀ (ρ : Env) (act : Act) w, LRel ρ a act.tmps.toList → HRel P ρ h w → ∃ u, (execOp act.eval o).run P w = .ok (.value u) w ∧ VRel ρ v u)
    (ep : putAt a o.dst v = some a₁) (k : OQ P ops rest a₁ h K) : OQ P ops (o :: rest) a h K := by
  intro ro ds opsA i ρ act w Q ho hd hr hdf H hQ
  obtain ⟨hoi, hrest⟩ := drop_at ho hd
  simp only [List.length_cons, List.range'_succ, wpOpsIn, hoi]
  rw [← wantedB_eq hr (by rw [ho]; exact sure_of_wanted hw), ho, hw, if_pos rfl]
  obtain ⟨u, hrun, hv⟩ := e ρ act w hr H
  have hnext := k ro _ _ _ _ _ _ Q ho hrest (putAt_rel ep hr hv) (by rw [put_defers]; exact hdf) H hQ
  refine ⟨fun _ _ => trivial, ?_⟩
  rw [Oper.semAt_eq _ _ _ hnd, hrun]
  exact hnext
theorem OS.assert {L : RL} {K : Slots → RL → Prop} {x : Operand} {xt t : TypeId} {ok : Bool} {y : Value} (hw : wantedB ops o a = true) (ho : o.op = .typeAssert x xt t ok) (hx : aev a x = some y) (e : assertB P t ok y = some v) (ep : putAt a o.dst v = some a₁) (k : OS P ops rest a₁ L K) : OS P ops (o :: rest) a L K :=
  fun h H => OQ.stay hw (fun c hc => by rw [ho] at hc; cases hc) (fun ρ act w hr HR => by
    obtain ⟨z, hz, hv⟩ := run_assert_am (w := w) (xt := xt) e (aev_rel hr hx)
    exact ⟨z, by simp only [execOp, ho]; simp [hz], hv⟩) ep (k h H)
end
end Go.Am
