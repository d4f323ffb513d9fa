/- Package variables at the entry. -/
import Derived.Test.YtmdcfnnoeimakaaGreatDoorFRb
namespace Go.Am
variable {P : Program} {ρ : Env} {h : AW} {w : World} {L : RL}
theorem enterG (HR : HRel P ρ h w) (ro : ∀ r row, h.get r = some row → row.own = false) (H : Has h L) (g : Nat) (cs : List Value) (hb : g < w.heap.size) (hc : cs ≠ [] → ∃ e f, w.heap[g]? = some (.cells ⟨cs⟩ e f)) :
    ∃ r ρ' h', ρ.le ρ' ∧ HRel P ρ' h' w ∧ (∀ r row, h'.get r = some row → row.own = false) ∧ Has h' ((r, .glob g cs) :: L) := by
  obtain ⟨h', e⟩ := h.new_some (.glob g cs)
  obtain ⟨_, hg, hn, hs⟩ := new_eq e
  have hnone : ρ h.next = none := HR.fresh0
  have le := upd_le (l := { block := g, base := 0, ext := 0, esz := 0 }) hnone
  have ro' : ∀ r row, h'.get r = some row → row.own = false := fun r row hr => by
    rw [hg] at hr
    split at hr
    · simp at hr; subst hr; rfl
    · exact ro r row hr
  refine ⟨h.next, upd ρ h.next { block := g, base := 0, ext := 0, esz := 0 }, h', le, ⟨fun r row hr => ?_, fun r r' row row' l₁ l₂ h1 h2 _ _ _ ho => ?_, fresh_upd HR rfl hn hs, by rw [hs]; exact HR.step⟩, ro', H.new e⟩
  · rw [hg] at hr
    split at hr
    · simp at hr; subst hr; subst_vars
      exact ⟨{ block := g, base := 0, ext := 0, esz := 0 }, by simp [upd], ⟨rfl, rfl⟩, hb, hc⟩
    · obtain ⟨l', hl', hr'⟩ := HR.loc r row hr
      exact ⟨l', le _ _ hl', hr'.keep le rfl⟩
  · rw [ro' r row h1, ro' r' row' h2] at ho; simp at ho
end Go.Am
