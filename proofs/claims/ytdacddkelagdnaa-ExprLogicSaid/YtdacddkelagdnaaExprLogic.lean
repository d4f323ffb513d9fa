/- Whatever three conditions are handed in that do not begin with an operator: put together in brackets by not, and, or, they hold as logic has it. No condition beyond the statement's own form. -/
import Derived.Test.YtdacddkelagdnaaRows
import Derived.Test.YtdacddkelagdnaaOpen
import Derived.Test.YtdacddkelagdnaaOpenT
import Derived.SizedLaws
import Derived.Test.YtdacddkelagdnaaChecked
import Derived.Test.YtdacddkelagdnaaEq
namespace Go.Proofs.Ytdacddkelagdnaa.exprLogic
open Go.ChangeShapes Go.WideShapes Go.ChangeAt Go.RowKit
open Go.ChangeMaps (open_string shut_string)
set_option linter.unusedVariables false

theorem own : ownKnob Try.prog.godebug = none := by kernel_rfl
theorem laidOut : laidOutB Try.prog = true := by kernel_rfl

set_option maxRecDepth 100000 in
theorem lifted (os : Os) (started : os.Started) (H : Type) (enc : TypeId × Value → H) :
    ReturnsInHanded {} Try.checked os 5 .any (Rows.exprLogicSpec.pre6 enc Try.prog Try.f5 Rows.exprLogicRow.domain false) (Rows.exprLogicSpec.post enc Try.prog Try.f5 false true false false) := by
  refine returnsInHanded_of_change_sized (C := Try.checked) own started (by kernel_rfl) Try.func5
    (ChangeSpec.witness6 (enc := enc) (C := Try.checked) false ⟨#[], #[.slice none 0 0, .slice none 0 0, .slice none 0 0], []⟩ 8 (by kernel_rfl) (by kernel_rfl) (by kernel_rfl) (by kernel_rfl)) ?_
  intro W base args ds gs before hval0 hW hcnd hsz0 _
  have hval : ∀ (j : Nat) t v, Try.f5.params[j]? = some t → args[j]? = some v → Value.okWide Try.prog W .any base t v := hval0
  have hW' := hW
  obtain ⟨p, q, hA0, hV, rfl, hfz, hnd⟩ := hW
  have hA : DataW.TrodAll enc Try.prog W 0 (fun _ => true) true Try.f5.params.toList args.toList ds p := hA0
  have hsz : (DataW.weightsEach Try.prog (Try.f5.params.toList ++ Rows.exprLogicSpec.plain.varTypes Try.prog) (ds ++ gs)).all (· ≤ reachBytes) = true := hsz0
  rw [Try.params5] at hA hval hsz
  obtain ⟨v0, vs0, d0, ds0, p0, q0, hargs, rfl, rfl, h0, r0⟩ := trodAll_cons hA
  obtain ⟨v1, vs1, d1, ds1, p1, q1, rfl, rfl, rfl, h1, r1⟩ := trodAll_cons r0
  obtain ⟨v2, vs2, d2, ds2, p2, q2, rfl, rfl, rfl, h2, r2⟩ := trodAll_cons r1
  obtain ⟨rfl, rfl, rfl⟩ := trodAll_nil r2
  obtain rfl : args = #[v0, v1, v2] := by cases args; simp_all
  obtain ⟨rfl, rfl⟩ := trodVars_none hV
  have k0 := h0
  have lt0 : ∀ x ∈ p0, x.block < W.heap.size := by obtain ⟨m, hm⟩ := k0; exact DataW.trod_lt m _ _ _ hm
  have z0 : ∀ m ∈ d0.weights Try.prog 23, m ≤ reachBytes := fun m hm => by simpa using List.all_eq_true.1 hsz m (DataW.weights_mem_each (j := 0) rfl rfl m hm)
  have ok0 := (hval 0 23 v0 rfl rfl)
  obtain ⟨A0, n0, c0, a0, rfl, w0, o0, x0, y0⟩ := open_texts Try.underlying23 Try.underlying9 (by kernel_rfl) (by kernel_rfl) ok0 h0 z0
  have k1 := h1
  have lt1 : ∀ x ∈ p1, x.block < W.heap.size := by obtain ⟨m, hm⟩ := k1; exact DataW.trod_lt m _ _ _ hm
  have z1 : ∀ m ∈ d1.weights Try.prog 23, m ≤ reachBytes := fun m hm => by simpa using List.all_eq_true.1 hsz m (DataW.weights_mem_each (j := 1) rfl rfl m hm)
  have ok1 := (hval 1 23 v1 rfl rfl)
  obtain ⟨A1, n1, c1, a1, rfl, w1, o1, x1, y1⟩ := open_texts Try.underlying23 Try.underlying9 (by kernel_rfl) (by kernel_rfl) ok1 h1 z1
  have k2 := h2
  have lt2 : ∀ x ∈ p2, x.block < W.heap.size := by obtain ⟨m, hm⟩ := k2; exact DataW.trod_lt m _ _ _ hm
  have z2 : ∀ m ∈ d2.weights Try.prog 23, m ≤ reachBytes := fun m hm => by simpa using List.all_eq_true.1 hsz m (DataW.weights_mem_each (j := 2) rfl rfl m hm)
  have ok2 := (hval 2 23 v2 rfl rfl)
  obtain ⟨A2, n2, c2, a2, rfl, w2, o2, x2, y2⟩ := open_texts Try.underlying23 Try.underlying9 (by kernel_rfl) (by kernel_rfl) ok2 h2 z2
  clear hA0 hval0
  obtain ⟨u0, e0, g0, L0, le0, vr0, HR0, ro0, HS0, R0, sb0⟩ := Am.enter_slice (sz := 1) (Am.enter0 (P := Try.prog) W).1 (Am.enter0 (P := Try.prog) W).2.1 (Am.enter0 (P := Try.prog) W).2.2 (Am.okSlice Try.underlying23 ok0) w0.1 (texts_flat a0) (fun hn => by obtain ⟨ad, e, _, _, hc⟩ := w0.cells hn; exact ⟨ad, e, hc⟩)
  obtain ⟨u1, e1, g1, L1, le1, vr1, HR1, ro1, HS1, R1, sb1⟩ := Am.enter_slice (sz := 1) HR0 ro0 HS0 (Am.okSlice Try.underlying23 ok1) w1.1 (texts_flat a1) (fun hn => by obtain ⟨ad, e, _, _, hc⟩ := w1.cells hn; exact ⟨ad, e, hc⟩)
  have R0 := R0.mono sb1
  obtain ⟨u2, e2, g2, L2, le2, vr2, HR2, ro2, HS2, R2, sb2⟩ := Am.enter_slice (sz := 1) HR1 ro1 HS1 (Am.okSlice Try.underlying23 ok2) w2.1 (texts_flat a2) (fun hn => by obtain ⟨ad, e, _, _, hc⟩ := w2.cells hn; exact ⟨ad, e, hc⟩)
  have R0 := R0.mono sb2
  have R1 := R1.mono sb2
  refine (Am.calls_true (us := [.slice A0 n0 c0, .slice A1 n1 c1, .slice A2 n2 c2]) (logicLaw_ct R0 R1 R2 (Nat.le_trans x0 (Nat.le_trans y0 (by decide))) (Nat.le_trans x1 (Nat.le_trans y1 (by decide))) (Nat.le_trans x2 (Nat.le_trans y2 (by decide))) (fun x hx => Nat.le_trans (o0 x hx) (by decide)) (fun x hx => Nat.le_trans (o1 x hx) (by decide)) (fun x hx => Nat.le_trans (o2 x hx) (by decide))) (.cons ((vr0.mono le1).mono le2) (.cons (vr1.mono le2) (.cons vr2 .nil))) HR2 ro2 HS2).mono fun e W' ⟨he, bel⟩ => ?_
  subst he
  exact ⟨_, rfl, _, _, _, [], _, [], hW', trodAll_mk1 (shut_bool Try.underlying4 _), (trodAll_cons_mk (Below.trod laidOut (by kernel_rfl) (of_decide_eq_true (by kernel_rfl)) k0 bel lt0) (trodAll_cons_mk (Below.trod laidOut (by kernel_rfl) (of_decide_eq_true (by kernel_rfl)) k1 bel lt1) (trodAll_cons_mk (Below.trod laidOut (by kernel_rfl) (of_decide_eq_true (by kernel_rfl)) k2 bel lt2) trodAll_mk0))), rfl, bel.frame _, fun h => by cases h⟩

theorem proved : Rows.ExprLogicSaid :=
  OpenClaim.holds_of_wide 5 Try.f5 rfl rfl rfl rfl rfl rfl rfl ⟨rfl, rfl, rfl, rfl, rfl⟩ rfl rfl rfl rfl rfl (by kernel_rfl) Try.func5 (by kernel_rfl)
    (of_decide_eq_true (by kernel_rfl)) (by unfold Func.isWrapper; first | (rw [if_pos (by decide +kernel)]; kernel_rfl) | (rw [if_neg (by decide +kernel)]; exact ⟨rfl, rfl⟩))
    (fun os started H enc _ => lifted os started H enc)
#print axioms proved
end Go.Proofs.Ytdacddkelagdnaa.exprLogic
