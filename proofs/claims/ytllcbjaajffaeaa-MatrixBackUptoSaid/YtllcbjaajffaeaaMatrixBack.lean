/- MatrixBack: a label tells the name and the values of which it is, and is the label of what it tells. Condition: what is handed in is of bulk at most 1048576. -/
import Derived.Test.YtllcbjaajffaeaaRows
import Derived.Test.YtllcbjaajffaeaaOpen
import Derived.SizedLaws
import Derived.JoinedCond
import Derived.Test.YtllcbjaajffaeaaChecked
import Derived.Test.YtllcbjaajffaeaaOpenY
import Derived.Test.YtllcbjaajffaeaaMq
namespace Go.Proofs.Ytllcbjaajffaeaa.matrixBack
open Go.ChangeShapes Go.WideShapes Go.ChangeAt Go.RowKit
open Go.ChangeMaps (open_string shut_string)
set_option linter.unusedVariables false

theorem own : ownKnob Try.prog.godebug = none := by kernel_rfl
theorem laidOut : laidOutB Try.prog = true := by kernel_rfl
set_option maxRecDepth 100000 in
theorem lifted (os : Os) (started : os.Started) (H : Type) (enc : TypeId × Value → H) (Fi : Stop.Interp) :
    ReturnsInHanded {} Try.checked os 8 .any ((Rows.OpenSpec.upto Rows.matrixBackSpec).pre6 enc Try.prog Try.f8 Rows.matrixBackUptoRow.domain false) (((Rows.OpenSpec.upto Rows.matrixBackSpec).at Fi).post enc Try.prog Try.f8 false true false false) := by
  refine Am.cond_shaped (C := Try.checked) (s := Rows.OpenSpec.upto Rows.matrixBackSpec) (k := Rows.uptoSmall) rfl own started (by kernel_rfl) Try.func8
    (OpenSpec.witness (enc := enc) (C := Try.checked) (s := Rows.OpenSpec.upto Rows.matrixBackSpec) (k := Rows.uptoSmall) rfl false ⟨#[], #[.string ByteArray.empty, .slice none 0 0, .string ByteArray.empty], []⟩ 8 (by kernel_rfl) (by kernel_rfl) (by kernel_rfl)
      (x := ([.lit (.string []), .nil, .lit (.string [])], [], [])) (by kernel_rfl) rfl (by kernel_rfl)) ?_
  intro W base args ds gs before hshape hval0 hW hk0
  have hval : ∀ (j : Nat) t v, Try.f8.params[j]? = some t → args[j]? = some v → Value.okWide Try.prog W .any base t v := hval0
  have hW' := hW
  obtain ⟨p, q, hA0, hV, rfl, hfz, hnd⟩ := hW
  have hA : DataW.TrodAll enc Try.prog W 0 (fun _ => true) true Try.f8.params.toList args.toList ds p := hA0
  rw [Try.params8] at hA hval
  obtain ⟨v0, vs0, d0, ds0, p0, q0, hargs, rfl, rfl, h0, r0⟩ := trodAll_cons hA
  obtain ⟨v1, vs1, d1, ds1, p1, q1, rfl, rfl, rfl, h1, r1⟩ := trodAll_cons r0
  obtain ⟨v2, vs2, d2, ds2, p2, q2, rfl, rfl, rfl, h2, r2⟩ := trodAll_cons r1
  obtain ⟨rfl, rfl, rfl⟩ := trodAll_nil r2
  obtain rfl : args = #[v0, v1, v2] := by cases args; simp_all
  obtain ⟨rfl, rfl⟩ := trodVars_none hV
  have k0 := h0
  have lt0 : ∀ x ∈ p0, x.block < W.heap.size := by obtain ⟨m, hm⟩ := k0; exact DataW.trod_lt m _ _ _ hm
  have ok0 := (hval 0 9 v0 rfl rfl)
  obtain ⟨a0, rfl, rfl, rfl, w0⟩ := open_string Try.underlying9 ok0 h0
  have k1 := h1
  have lt1 : ∀ x ∈ p1, x.block < W.heap.size := by obtain ⟨m, hm⟩ := k1; exact DataW.trod_lt m _ _ _ hm
  have ok1 := (hval 1 32 v1 rfl rfl)
  have k2 := h2
  have lt2 : ∀ x ∈ p2, x.block < W.heap.size := by obtain ⟨m, hm⟩ := k2; exact DataW.trod_lt m _ _ _ hm
  have ok2 := (hval 2 9 v2 rfl rfl)
  obtain ⟨a2, rfl, rfl, rfl, w2⟩ := open_string Try.underlying9 ok2 h2
  have hb0 : Rows.uptoBulkAll ([_, _, _] ++ []) ≤ 1048576 := of_decide_eq_true hk0
  simp only [List.append_nil, Rows.uptoBulkAll, Rows.uptoBulk] at hb0
  have hs0 : a0.data.toList.length ≤ 1048576 := by omega
  have sm1 : U.SmallU d1 := by unfold U.SmallU; omega
  have hs2 : a2.data.toList.length ≤ 1048576 := by omega
  clear hA0 hval0
  have hp := hpos hshape
  have E0 : Am.Ent Try.prog W _ _ _ := ⟨(Am.enter0 (P := Try.prog) W).1, (Am.enter0 (P := Try.prog) W).2.1, (Am.enter0 (P := Try.prog) W).2.2⟩
  obtain ⟨u2, ρ2, g2, L2, le2, vr2, E2, he2, sb2⟩ := Am.enter_list Try.underlying32 ty_strs ok1 h1 hp E0
  obtain ⟨y1, b1, hy1, HV1, HW1⟩ := U.here_ustrs (n := 1) he2
  obtain rfl : u2 = y1 := by simpa using hy1
  have HW1 := HW1 sm1
  refine (Am.calls_true (us := [_, _, _]) (backLaw_ct HV1 HW1.1 HW1.2 hs0 hs2) (.cons (.string _) (.cons vr2 (.cons (.string _) .nil))) E2.rel E2.ro E2.has).mono fun e W' ⟨he, bel⟩ => ?_
  subst he
  exact ⟨_, rfl, _, _, _, [], _, [], hW', trodAll_mk1 (shut_bool Try.underlying4 _), (trodAll_cons_mk (Below.trod laidOut (by kernel_rfl) (of_decide_eq_true (by kernel_rfl)) k0 bel lt0) (trodAll_cons_mk (Below.trod laidOut (by kernel_rfl) (of_decide_eq_true (by kernel_rfl)) k1 bel lt1) (trodAll_cons_mk (Below.trod laidOut (by kernel_rfl) (of_decide_eq_true (by kernel_rfl)) k2 bel lt2) trodAll_mk0))), rfl, bel.frame _, fun h => by cases h⟩

theorem proved : Rows.MatrixBackUptoSaid :=
  OpenClaim.holds_of_cond 8 Try.f8 rfl rfl rfl rfl rfl rfl rfl ⟨rfl, rfl, rfl, rfl, rfl⟩ rfl rfl rfl rfl rfl (by kernel_rfl) Try.func8 (by kernel_rfl)
    (of_decide_eq_true (by kernel_rfl)) (by unfold Func.isWrapper; first | (rw [if_pos (by decide +kernel)]; kernel_rfl) | (rw [if_neg (by decide +kernel)]; exact ⟨rfl, rfl⟩))
    (fun os started H enc _ Fi => lifted os started H enc Fi)
#print axioms proved
end Go.Proofs.Ytllcbjaajffaeaa.matrixBack
