/- Whatever words are handed in: brackets around a condition that does not begin with an operator change nothing, but that it is deeper; its words are those of which it was parsed. No condition beyond the statement's own form. -/
import Derived.Test.YtdacddkelagdnaaRows
import Derived.Test.YtdacddkelagdnaaOpen
import Derived.Test.YtdacddkelagdnaaOpenT
import Derived.SizedLaws
import Derived.Test.YtdacddkelagdnaaChecked
import Derived.Test.YtdacddkelagdnaaEp
namespace Go.Proofs.Ytdacddkelagdnaa.exprBrackets
open Go.ChangeShapes Go.WideShapes Go.ChangeAt Go.RowKit
open Go.ChangeMaps (open_string shut_string)
set_option linter.unusedVariables false

theorem own : ownKnob Try.prog.godebug = none := by kernel_rfl
theorem laidOut : laidOutB Try.prog = true := by kernel_rfl

set_option maxRecDepth 100000 in
theorem lifted (os : Os) (started : os.Started) (H : Type) (enc : TypeId × Value → H) :
    ReturnsInHanded {} Try.checked os 6 .any (Rows.exprBracketsSpec.pre6 enc Try.prog Try.f6 Rows.exprBracketsRow.domain false) (Rows.exprBracketsSpec.post enc Try.prog Try.f6 false true false false) := by
  refine returnsInHanded_of_change_sized (C := Try.checked) own started (by kernel_rfl) Try.func6
    (ChangeSpec.witness6 (enc := enc) (C := Try.checked) false ⟨#[], #[.slice none 0 0], []⟩ 8 (by kernel_rfl) (by kernel_rfl) (by kernel_rfl) (by kernel_rfl)) ?_
  intro W base args ds gs before hval0 hW hcnd hsz0 _
  have hval : ∀ (j : Nat) t v, Try.f6.params[j]? = some t → args[j]? = some v → Value.okWide Try.prog W .any base t v := hval0
  have hW' := hW
  obtain ⟨p, q, hA0, hV, rfl, hfz, hnd⟩ := hW
  have hA : DataW.TrodAll enc Try.prog W 0 (fun _ => true) true Try.f6.params.toList args.toList ds p := hA0
  have hsz : (DataW.weightsEach Try.prog (Try.f6.params.toList ++ Rows.exprBracketsSpec.plain.varTypes Try.prog) (ds ++ gs)).all (· ≤ reachBytes) = true := hsz0
  rw [Try.params6] at hA hval hsz
  obtain ⟨v0, vs0, d0, ds0, p0, q0, hargs, rfl, rfl, h0, r0⟩ := trodAll_cons hA
  obtain ⟨rfl, rfl, rfl⟩ := trodAll_nil r0
  obtain rfl : args = #[v0] := by cases args; simp_all
  obtain ⟨rfl, rfl⟩ := trodVars_none hV
  have k0 := h0
  have lt0 : ∀ x ∈ p0, x.block < W.heap.size := by obtain ⟨m, hm⟩ := k0; exact DataW.trod_lt m _ _ _ hm
  have z0 : ∀ m ∈ d0.weights Try.prog 23, m ≤ reachBytes := fun m hm => by simpa using List.all_eq_true.1 hsz m (DataW.weights_mem_each (j := 0) rfl rfl m hm)
  have ok0 := (hval 0 23 v0 rfl rfl)
  obtain ⟨A0, n0, c0, a0, rfl, w0, o0, x0, y0⟩ := open_texts Try.underlying23 Try.underlying9 (by kernel_rfl) (by kernel_rfl) ok0 h0 z0
  clear hA0 hval0
  obtain ⟨u0, e0, g0, L0, le0, vr0, HR0, ro0, HS0, R0, sb0⟩ := Am.enter_slice (sz := 1) (Am.enter0 (P := Try.prog) W).1 (Am.enter0 (P := Try.prog) W).2.1 (Am.enter0 (P := Try.prog) W).2.2 (Am.okSlice Try.underlying23 ok0) w0.1 (texts_flat a0) (fun hn => by obtain ⟨ad, e, _, _, hc⟩ := w0.cells hn; exact ⟨ad, e, hc⟩)
  refine (Am.calls_true (us := [.slice A0 n0 c0]) (bracketsLaw_ct R0 (Nat.le_trans x0 (Nat.le_trans y0 (by decide))) (fun x hx => Nat.le_trans (o0 x hx) (by decide))) (.cons vr0 .nil) HR0 ro0 HS0).mono fun e W' ⟨he, bel⟩ => ?_
  subst he
  exact ⟨_, rfl, _, _, _, [], _, [], hW', trodAll_mk1 (shut_bool Try.underlying4 _), (trodAll_cons_mk (Below.trod laidOut (by kernel_rfl) (of_decide_eq_true (by kernel_rfl)) k0 bel lt0) trodAll_mk0), rfl, bel.frame _, fun h => by cases h⟩

theorem proved : Rows.ExprBracketsSaid :=
  OpenClaim.holds_of_wide 6 Try.f6 rfl rfl rfl rfl rfl rfl rfl ⟨rfl, rfl, rfl, rfl, rfl⟩ rfl rfl rfl rfl rfl (by kernel_rfl) Try.func6 (by kernel_rfl)
    (of_decide_eq_true (by kernel_rfl)) (by unfold Func.isWrapper; first | (rw [if_pos (by decide +kernel)]; kernel_rfl) | (rw [if_neg (by decide +kernel)]; exact ⟨rfl, rfl⟩))
    (fun os started H enc _ => lifted os started H enc)
#print axioms proved
end Go.Proofs.Ytdacddkelagdnaa.exprBrackets
