/- Both ways: for any needs, one thing rests on another one just if it is among those that rest on that one. -/
import Derived.Test.YteakbbnlkjckhaaRows
import Derived.Test.YteakbbnlkjckhaaOpen
import Derived.SizedLaws
import Derived.JoinedCond
import Derived.Test.YteakbbnlkjckhaaChecked
import Derived.Test.YteakbbnlkjckhaaOpenZ
import Derived.Test.YteakbbnlkjckhaaGrU
namespace Go.Proofs.Yteakbbnlkjckhaa.graphBoth
open Go.ChangeShapes Go.WideShapes Go.ChangeAt Go.RowKit
open Go.ChangeMaps (open_string shut_string)
set_option linter.unusedVariables false

theorem own : ownKnob Try.prog.godebug = none := by kernel_rfl
theorem laidOut : laidOutB Try.prog = true := by kernel_rfl
set_option maxRecDepth 100000 in
theorem lifted (os : Os) (started : os.Started) (H : Type) (enc : TypeId × Value → H) :
    ReturnsInHanded {} Try.checked os 8 .any (Rows.graphBothSpec.pre6 enc Try.prog Try.f8 Rows.graphBothRow.domain false) (Rows.graphBothSpec.post enc Try.prog Try.f8 false true false false) := by
  refine Am.sized_shaped (C := Try.checked) own started (by kernel_rfl) Try.func8
    (ChangeSpec.witness6 (enc := enc) (C := Try.checked) false ⟨#[], #[.slice none 0 0], []⟩ 8 (by kernel_rfl) (by kernel_rfl) (by kernel_rfl) (by kernel_rfl)) ?_
  intro W base args ds gs before hshape hval0 hW hsz0
  have hval : ∀ (j : Nat) t v, Try.f8.params[j]? = some t → args[j]? = some v → Value.okWide Try.prog W .any base t v := hval0
  have hW' := hW
  obtain ⟨p, q, hA0, hV, rfl, hfz, hnd⟩ := hW
  have hA : DataW.TrodAll enc Try.prog W 0 (fun _ => true) true Try.f8.params.toList args.toList ds p := hA0
  have hsz : (DataW.weightsEach Try.prog (Try.f8.params.toList ++ Rows.graphBothSpec.plain.varTypes Try.prog) (ds ++ gs)).all (· ≤ reachBytes) = true := hsz0
  rw [Try.params8] at hA hval hsz
  obtain ⟨v0, vs0, d0, ds0, p0, q0, hargs, rfl, rfl, h0, r0⟩ := trodAll_cons hA
  obtain ⟨rfl, rfl, rfl⟩ := trodAll_nil r0
  obtain rfl : args = #[v0] := by cases args; simp_all
  obtain ⟨rfl, rfl⟩ := trodVars_none hV
  have k0 := h0
  have lt0 : ∀ x ∈ p0, x.block < W.heap.size := by obtain ⟨m, hm⟩ := k0; exact DataW.trod_lt m _ _ _ hm
  have z0 : ∀ m ∈ d0.weights Try.prog 24, m ≤ reachBytes := fun m hm => by simpa using List.all_eq_true.1 hsz m (DataW.weights_mem_each (j := 0) rfl rfl m hm)
  have ok0 := (hval 0 24 v0 rfl rfl)
  clear hA0 hval0
  have hp := hpos hshape
  have E0 : Am.Ent Try.prog W _ _ _ := ⟨(Am.enter0 (P := Try.prog) W).1, (Am.enter0 (P := Try.prog) W).2.1, (Am.enter0 (P := Try.prog) W).2.2⟩
  obtain ⟨u1, ρ1, g1, L1, le1, vr1, E1, he1, sb1⟩ := Am.enter_list Try.underlying24 ty_needs ok0 h0 hp E0
  obtain ⟨y0, b0, hy0, HV0, HW0⟩ := here_needs (n := 1) he1
  obtain rfl : u1 = y0 := by simpa using hy0
  have HW0 := HW0 z0
  refine (Am.calls_true (us := [_]) (bothLaw_ct HV0 ⟨by have := HW0.1; omega, fun w hw => by have := HW0.2 w hw; omega⟩) (.cons vr1 .nil) E1.rel E1.ro E1.has).mono fun e W' ⟨he, bel⟩ => ?_
  subst he
  exact ⟨_, rfl, _, _, _, [], _, [], hW', trodAll_mk1 (shut_bool Try.underlying4 _), (trodAll_cons_mk (Below.trod laidOut (by kernel_rfl) (of_decide_eq_true (by kernel_rfl)) k0 bel lt0) trodAll_mk0), rfl, bel.frame _, fun h => by cases h⟩

theorem proved : Rows.GraphBothSaid :=
  OpenClaim.holds_of_wide 8 Try.f8 rfl rfl rfl rfl rfl rfl rfl ⟨rfl, rfl, rfl, rfl, rfl⟩ rfl rfl rfl rfl rfl (by kernel_rfl) Try.func8 (by kernel_rfl)
    (of_decide_eq_true (by kernel_rfl)) (by unfold Func.isWrapper; first | (rw [if_pos (by decide +kernel)]; kernel_rfl) | (rw [if_neg (by decide +kernel)]; exact ⟨rfl, rfl⟩))
    (fun os started H enc _ => lifted os started H enc)
#print axioms proved
end Go.Proofs.Yteakbbnlkjckhaa.graphBoth
