/- a text with variables put in is what the document says. Conditions: none but the form's own (each list and text fits in a machine). -/
import Derived.Test.YtllcbjaajffaeaaRows
import Derived.Test.YtllcbjaajffaeaaOpen
import Derived.SizedLaws
import Derived.JoinedCond
import Derived.Test.YtllcbjaajffaeaaChecked
import Derived.Test.YtllcbjaajffaeaaOpenE
import Derived.Test.YtllcbjaajffaeaaXj
namespace Go.Proofs.Ytllcbjaajffaeaa.expandSubst
open Go.ChangeShapes Go.WideShapes Go.ChangeAt Go.RowKit
open Go.ChangeMaps (open_string shut_string)
set_option linter.unusedVariables false

theorem own : ownKnob Try.prog.godebug = none := by kernel_rfl
theorem laidOut : laidOutB Try.prog = true := by kernel_rfl
set_option maxRecDepth 100000 in
theorem lifted (os : Os) (started : os.Started) (H : Type) (enc : TypeId × Value → H) :
    ReturnsInHanded {} Try.checked os 3 .any (Rows.expandSubstSpec.pre6 enc Try.prog Try.f3 Rows.expandSubstRow.domain false) (Rows.expandSubstSpec.post enc Try.prog Try.f3 false true false false) := by
  refine Am.sized_shaped (C := Try.checked) own started (by kernel_rfl) Try.func3
    (ChangeSpec.witness6 (enc := enc) (C := Try.checked) false ⟨#[], #[.string ByteArray.empty, .slice none 0 0], []⟩ 8 (by kernel_rfl) (by kernel_rfl) (by kernel_rfl) (by kernel_rfl)) ?_
  intro W base args ds gs before hshape hval0 hW hsz0
  have hval : ∀ (j : Nat) t v, Try.f3.params[j]? = some t → args[j]? = some v → Value.okWide Try.prog W .any base t v := hval0
  have hW' := hW
  obtain ⟨p, q, hA0, hV, rfl, hfz, hnd⟩ := hW
  have hA : DataW.TrodAll enc Try.prog W 0 (fun _ => true) true Try.f3.params.toList args.toList ds p := hA0
  have hsz : (DataW.weightsEach Try.prog (Try.f3.params.toList ++ Rows.expandSubstSpec.plain.varTypes Try.prog) (ds ++ gs)).all (· ≤ reachBytes) = true := hsz0
  rw [Try.params3] at hA hval hsz
  obtain ⟨v0, vs0, d0, ds0, p0, q0, hargs, rfl, rfl, h0, r0⟩ := trodAll_cons hA
  obtain ⟨v1, vs1, d1, ds1, p1, q1, rfl, rfl, rfl, h1, r1⟩ := trodAll_cons r0
  obtain ⟨rfl, rfl, rfl⟩ := trodAll_nil r1
  obtain rfl : args = #[v0, v1] := by cases args; simp_all
  obtain ⟨rfl, rfl⟩ := trodVars_none hV
  have k0 := h0
  have lt0 : ∀ x ∈ p0, x.block < W.heap.size := by obtain ⟨m, hm⟩ := k0; exact DataW.trod_lt m _ _ _ hm
  have z0 : ∀ m ∈ d0.weights Try.prog 9, m ≤ reachBytes := fun m hm => by simpa using List.all_eq_true.1 hsz m (DataW.weights_mem_each (j := 0) rfl rfl m hm)
  have ok0 := (hval 0 9 v0 rfl rfl)
  obtain ⟨a0, rfl, rfl, rfl, w0⟩ := open_string Try.underlying9 ok0 h0
  have hs0 : a0.data.toList.length ≤ 140737488351232 := by
    have h1 := z0 a0.data.toList.length (by simp [DataW.weights])
    rw [reach_is] at h1; exact h1
  have k1 := h1
  have lt1 : ∀ x ∈ p1, x.block < W.heap.size := by obtain ⟨m, hm⟩ := k1; exact DataW.trod_lt m _ _ _ hm
  have z1 : ∀ m ∈ d1.weights Try.prog 22, m ≤ reachBytes := fun m hm => by simpa using List.all_eq_true.1 hsz m (DataW.weights_mem_each (j := 1) rfl rfl m hm)
  have ok1 := (hval 1 22 v1 rfl rfl)
  clear hA0 hval0
  have hp := hpos hshape
  have E0 : Am.Ent Try.prog W _ _ _ := ⟨(Am.enter0 (P := Try.prog) W).1, (Am.enter0 (P := Try.prog) W).2.1, (Am.enter0 (P := Try.prog) W).2.2⟩
  obtain ⟨u2, ρ2, g2, L2, le2, vr2, E2, he2, sb2⟩ := Am.enter_list Try.underlying22 ty_vars ok1 h1 hp E0
  obtain ⟨y1, b1, hy1, HV1, HW1⟩ := here_vars (n := 1) he2
  obtain rfl : u2 = y1 := by simpa using hy1
  have HW1 := HW1 z1
  refine (Am.calls_true (us := [_, _]) (expandSubst_ct (s := a0.data.toList) HV1 (by have := HW1.1; omega) (fun p hp => by have := HW1.2 p hp; omega) (by omega)) (.cons (.string _) (.cons vr2 .nil)) E2.rel E2.ro E2.has).mono fun e W' ⟨he, bel⟩ => ?_
  subst he
  exact ⟨_, rfl, _, _, _, [], _, [], hW', trodAll_mk1 (shut_bool Try.underlying4 _), (trodAll_cons_mk (Below.trod laidOut (by kernel_rfl) (of_decide_eq_true (by kernel_rfl)) k0 bel lt0) (trodAll_cons_mk (Below.trod laidOut (by kernel_rfl) (of_decide_eq_true (by kernel_rfl)) k1 bel lt1) trodAll_mk0)), rfl, bel.frame _, fun h => by cases h⟩

theorem proved : Rows.ExpandSubstSaid :=
  OpenClaim.holds_of_wide 3 Try.f3 rfl rfl rfl rfl rfl rfl rfl ⟨rfl, rfl, rfl, rfl, rfl⟩ rfl rfl rfl rfl rfl (by kernel_rfl) Try.func3 (by kernel_rfl)
    (of_decide_eq_true (by kernel_rfl)) (by unfold Func.isWrapper; first | (rw [if_pos (by decide +kernel)]; kernel_rfl) | (rw [if_neg (by decide +kernel)]; exact ⟨rfl, rfl⟩))
    (fun os started H enc _ => lifted os started H enc)
#print axioms proved
end Go.Proofs.Ytllcbjaajffaeaa.expandSubst
