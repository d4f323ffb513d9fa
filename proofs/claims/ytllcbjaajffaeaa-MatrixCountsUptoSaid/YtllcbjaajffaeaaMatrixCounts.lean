/- MatrixCounts: there are as many rows as the counts of values come to, multiplied; where no value stands twice in an axis, no two rows have one label. Condition: what is handed in is of bulk at most 1048576. -/
import Derived.Test.YtllcbjaajffaeaaRows
import Derived.Test.YtllcbjaajffaeaaOpen
import Derived.SizedLaws
import Derived.JoinedCond
import Derived.Test.YtllcbjaajffaeaaChecked
import Derived.Test.YtllcbjaajffaeaaOpenY
import Derived.Test.YtllcbjaajffaeaaMs
namespace Go.Proofs.Ytllcbjaajffaeaa.matrixCounts
open Go.ChangeShapes Go.WideShapes Go.ChangeAt Go.RowKit
open Go.ChangeMaps (open_string shut_string)
set_option linter.unusedVariables false

theorem own : ownKnob Try.prog.godebug = none := by kernel_rfl
theorem laidOut : laidOutB Try.prog = true := by kernel_rfl
set_option maxRecDepth 100000 in
theorem lifted (os : Os) (started : os.Started) (H : Type) (enc : TypeId × Value → H) (Fi : Stop.Interp) :
    ReturnsInHanded {} Try.checked os 7 .any ((Rows.OpenSpec.upto Rows.matrixCountsSpec).pre6 enc Try.prog Try.f7 Rows.matrixCountsUptoRow.domain false) (((Rows.OpenSpec.upto Rows.matrixCountsSpec).at Fi).post enc Try.prog Try.f7 false true false false) := by
  refine Am.cond_shaped (C := Try.checked) (s := Rows.OpenSpec.upto Rows.matrixCountsSpec) (k := Rows.uptoSmall) rfl own started (by kernel_rfl) Try.func7
    (OpenSpec.witness (enc := enc) (C := Try.checked) (s := Rows.OpenSpec.upto Rows.matrixCountsSpec) (k := Rows.uptoSmall) rfl false ⟨#[], #[.slice none 0 0, .string ByteArray.empty], []⟩ 8 (by kernel_rfl) (by kernel_rfl) (by kernel_rfl)
      (x := ([.nil, .lit (.string [])], [], [])) (by kernel_rfl) rfl (by kernel_rfl)) ?_
  intro W base args ds gs before hshape hval0 hW hk0
  have hval : ∀ (j : Nat) t v, Try.f7.params[j]? = some t → args[j]? = some v → Value.okWide Try.prog W .any base t v := hval0
  have hW' := hW
  obtain ⟨p, q, hA0, hV, rfl, hfz, hnd⟩ := hW
  have hA : DataW.TrodAll enc Try.prog W 0 (fun _ => true) true Try.f7.params.toList args.toList ds p := hA0
  rw [Try.params7] at hA hval
  obtain ⟨v0, vs0, d0, ds0, p0, q0, hargs, rfl, rfl, h0, r0⟩ := trodAll_cons hA
  obtain ⟨v1, vs1, d1, ds1, p1, q1, rfl, rfl, rfl, h1, r1⟩ := trodAll_cons r0
  obtain ⟨rfl, rfl, rfl⟩ := trodAll_nil r1
  obtain rfl : args = #[v0, v1] := by cases args; simp_all
  obtain ⟨rfl, rfl⟩ := trodVars_none hV
  have k0 := h0
  have lt0 : ∀ x ∈ p0, x.block < W.heap.size := by obtain ⟨m, hm⟩ := k0; exact DataW.trod_lt m _ _ _ hm
  have ok0 := (hval 0 31 v0 rfl rfl)
  have k1 := h1
  have lt1 : ∀ x ∈ p1, x.block < W.heap.size := by obtain ⟨m, hm⟩ := k1; exact DataW.trod_lt m _ _ _ hm
  have ok1 := (hval 1 9 v1 rfl rfl)
  obtain ⟨a1, rfl, rfl, rfl, w1⟩ := open_string Try.underlying9 ok1 h1
  have hb0 : Rows.uptoBulkAll ([_, _] ++ []) ≤ 1048576 := of_decide_eq_true hk0
  simp only [List.append_nil, Rows.uptoBulkAll, Rows.uptoBulk] at hb0
  have sm0 : U.SmallU d0 := by unfold U.SmallU; omega
  have hs1 : a1.data.toList.length ≤ 1048576 := by omega
  clear hA0 hval0
  have hp := hpos hshape
  have E0 : Am.Ent Try.prog W _ _ _ := ⟨(Am.enter0 (P := Try.prog) W).1, (Am.enter0 (P := Try.prog) W).2.1, (Am.enter0 (P := Try.prog) W).2.2⟩
  obtain ⟨u1, ρ1, g1, L1, le1, vr1, E1, he1, sb1⟩ := Am.enter_list Try.underlying31 ty_axes ok0 h0 hp E0
  obtain ⟨y0, b0, c0, hy0, HV0, HX0, HW0⟩ := U.here_uaxes (n := 1) he1
  obtain rfl : u1 = y0 := by simpa using hy0
  have HW0 := HW0 sm0
  refine (Am.calls_true (us := [_, _]) (countsLaw_ct HV0 HX0 HW0.1 HW0.2 hs1) (.cons vr1 (.cons (.string _) .nil)) E1.rel E1.ro E1.has).mono fun e W' ⟨he, bel⟩ => ?_
  subst he
  exact ⟨_, rfl, _, _, _, [], _, [], hW', trodAll_mk1 (shut_bool Try.underlying4 _), (trodAll_cons_mk (Below.trod laidOut (by kernel_rfl) (of_decide_eq_true (by kernel_rfl)) k0 bel lt0) (trodAll_cons_mk (Below.trod laidOut (by kernel_rfl) (of_decide_eq_true (by kernel_rfl)) k1 bel lt1) trodAll_mk0)), rfl, bel.frame _, fun h => by cases h⟩

theorem proved : Rows.MatrixCountsUptoSaid :=
  OpenClaim.holds_of_cond 7 Try.f7 rfl rfl rfl rfl rfl rfl rfl ⟨rfl, rfl, rfl, rfl, rfl⟩ rfl rfl rfl rfl rfl (by kernel_rfl) Try.func7 (by kernel_rfl)
    (of_decide_eq_true (by kernel_rfl)) (by unfold Func.isWrapper; first | (rw [if_pos (by decide +kernel)]; kernel_rfl) | (rw [if_neg (by decide +kernel)]; exact ⟨rfl, rfl⟩))
    (fun os started H enc _ Fi => lifted os started H enc Fi)
#print axioms proved
end Go.Proofs.Ytllcbjaajffaeaa.matrixCounts
