/- What is handed in, read: variables. -/
import Derived.Test.YtllcbjaajffaeaaOpenY
import Derived.Test.YtllcbjaajffaeaaXj
namespace Go.Proofs.Ytllcbjaajffaeaa
open Go.Am Go.ChangeShapes Go.WideShapes Go.ChangeAt Go.RowKit
set_option linter.unusedVariables false
set_option linter.unusedSimpArgs false
set_option maxRecDepth 20000
theorem ty_vars : tyOk Try.prog 6 22 = true := by kernel_rfl
section
variable {H : Type} {L : RL} {n : Nat} {cs : List Value} {d : DataW H}
theorem here_vars (h : Here Try.prog L (n + 5) 22 cs d) : ∃ v l, cs = [v] ∧ SV 2 L v l.length (fl l) ∧ (Small Try.prog 22 d → l.length * 32 ≤ 140737488351232 ∧ ∀ p, p ∈ l → p.1.length ≤ 140737488351232 ∧ p.2.length ≤ 140737488351232) := by
  obtain ⟨v, l, rfl, hr, hz, hall⟩ := Here.list Try.underlying22 h
  obtain ⟨its, hits⟩ := Two.pick (R := fun (x : List Value × DataW H) (it : W × W) => x ∈ l ∧ x.1 = [str it.1, str it.2] ∧ (Small Try.prog 46 x.2 → it.1.length ≤ 140737488351232 ∧ it.2.length ≤ 140737488351232)) l fun x hx => by
    obtain ⟨c0, d0, c1, d1, hcs, hs, h0, h1⟩ := Here.two Try.underlying46 (hall x hx).2
    obtain ⟨s, rfl, hs1⟩ := Here.text Try.underlying9 h0
    obtain ⟨s2, rfl, hs2⟩ := Here.text Try.underlying9 h1
    refine ⟨(s, s2), hx, by rw [hcs]; rfl, fun hsm => ?_⟩
    obtain ⟨q0, q1⟩ := hs hsm
    have e1 := hs1 q0
    have e2 := hs2 q1
    rw [reach_is] at e1 e2
    exact ⟨e1, e2⟩
  have hlen := hits.len
  have hcs : l.flatMap Prod.fst = fl its := by
    have key : ∀ {l0 : List (List Value × DataW H)} {its : List (W × W)}, Two (fun (x : List Value × DataW H) (it : W × W) => x ∈ l ∧ x.1 = [str it.1, str it.2] ∧ (Small Try.prog 46 x.2 → it.1.length ≤ 140737488351232 ∧ it.2.length ≤ 140737488351232)) l0 its → l0.flatMap Prod.fst = fl its := fun h => by
      induction h with
      | nil => rfl
      | cons h _ ih => rw [List.flatMap_cons, ih, h.2.1]; rfl
    exact key hits
  have hc3 : Try.prog.cellsOf 46 = 2 := by kernel_rfl
  have hb3 : Try.prog.bytesOf 46 = 32 := by kernel_rfl
  rw [hc3, hcs] at hr
  refine ⟨v, its, rfl, by rw [hlen]; exact hr.sv, fun hsm => ?_⟩
  obtain ⟨q1, q2⟩ := hz hsm
  rw [hb3, reach_is] at q1
  refine ⟨by rw [hlen]; exact q1, fun it hit => ?_⟩
  obtain ⟨x, hx, hxl, _, hb⟩ := hits.back it hit
  exact hb (q2 x hx)
end
end Go.Proofs.Ytllcbjaajffaeaa
