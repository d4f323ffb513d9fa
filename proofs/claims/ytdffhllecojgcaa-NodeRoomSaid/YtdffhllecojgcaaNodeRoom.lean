/- A leaf of at most two keys fits, any other node of at most six, if they may be; a node that fits, without one of its keys, fits and is smaller: NodeRoom comes to true for every node and any place, on every run of the model; strings and lists each within the form's reach. -/
import Derived.Test.YtdffhllecojgcaaRows
import Derived.Test.YtdffhllecojgcaaOpen
import Derived.SizedLaws
import Derived.Test.YtdffhllecojgcaaChecked
import Derived.Test.YtdffhllecojgcaaNw
import Derived.Test.YtdffhllecojgcaaNh
namespace Go.Proofs.Ytdffhllecojgcaa.nodeRoom
open Go.ChangeShapes Go.WideShapes Go.ChangeAt Go.RowKit
open Go.ChangeMaps (open_string shut_string)
set_option linter.unusedVariables false

theorem own : ownKnob Try.prog.godebug = none := by kernel_rfl
theorem laidOut : laidOutB Try.prog = true := by kernel_rfl

set_option maxRecDepth 100000 in
theorem lifted (os : Os) (started : os.Started) (H : Type) (enc : TypeId × Value → H) :
    ReturnsInHanded {} Try.checked os 7 .any (Rows.nodeRoomSpec.pre6 enc Try.prog Try.f7 Rows.nodeRoomRow.domain false) (Rows.nodeRoomSpec.post enc Try.prog Try.f7 false true false false) := by
  refine returnsInHanded_of_change_sized (C := Try.checked) own started (by kernel_rfl) Try.func7
    (ChangeSpec.witness6 (enc := enc) (C := Try.checked) false ⟨#[], #[.agg #[.bool false, .slice none 0 0, .slice none 0 0, .slice none 0 0], .int .i64 0], []⟩ 8 (by kernel_rfl) (by kernel_rfl) (by kernel_rfl) (by kernel_rfl)) ?_
  intro W base args ds gs before hval0 hW hcnd hsz0 _
  have hval : ∀ (j : Nat) t v, Try.f7.params[j]? = some t → args[j]? = some v → Value.okWide Try.prog W .any base t v := hval0
  have hW' := hW
  obtain ⟨p, q, hA0, hV, rfl, hfz, hnd⟩ := hW
  have hA : DataW.TrodAll enc Try.prog W 0 (fun _ => true) true Try.f7.params.toList args.toList ds p := hA0
  have hsz : (DataW.weightsEach Try.prog (Try.f7.params.toList ++ Rows.nodeRoomSpec.plain.varTypes Try.prog) (ds ++ gs)).all (· ≤ reachBytes) = true := hsz0
  rw [Try.params7] at hA hval hsz
  obtain ⟨v0, vs0, d0, ds0, p0, q0, hargs, rfl, rfl, h0, r0⟩ := trodAll_cons hA
  obtain ⟨v1, vs1, d1, ds1, p1, q1, rfl, rfl, rfl, h1, r1⟩ := trodAll_cons r0
  obtain ⟨rfl, rfl, rfl⟩ := trodAll_nil r1
  obtain rfl : args = #[v0, v1] := by cases args; simp_all
  obtain ⟨rfl, rfl⟩ := trodVars_none hV
  have k0 := h0
  have lt0 : ∀ x ∈ p0, x.block < W.heap.size := by obtain ⟨m, hm⟩ := k0; exact DataW.trod_lt m _ _ _ hm
  have z0 : ∀ m ∈ d0.weights Try.prog 25, m ≤ reachBytes := fun m hm => by simpa using List.all_eq_true.1 hsz m (DataW.weights_mem_each (j := 0) rfl rfl m hm)
  have ok0 := (hval 0 25 v0 rfl rfl)
  obtain ⟨b0, v01, v02, v03, rfl, t01, t02, t03⟩ := open_node Try.underlying25 ⟨rfl, rfl, rfl, rfl⟩ (by kernel_rfl) Try.underlying4 Try.underlying22 Try.underlying22 Try.underlying23 ⟨by kernel_rfl, by kernel_rfl, by kernel_rfl, by kernel_rfl⟩ (by kernel_rfl) ok0 h0 z0
  obtain ⟨A01, n01, c01, a01, rfl, w01, o01, x01, y01⟩ := part_texts Try.underlying22 Try.underlying9 (by kernel_rfl) (by kernel_rfl) t01
  obtain ⟨A02, n02, c02, a02, rfl, w02, o02, x02, y02⟩ := part_texts Try.underlying22 Try.underlying9 (by kernel_rfl) (by kernel_rfl) t02
  obtain ⟨A03, n03, c03, a03, rfl, w03, o03, x03, y03⟩ := part_ints Try.underlying23 Try.underlying3 (by kernel_rfl) (by kernel_rfl) t03
  have k1 := h1
  have lt1 : ∀ x ∈ p1, x.block < W.heap.size := by obtain ⟨m, hm⟩ := k1; exact DataW.trod_lt m _ _ _ hm
  have z1 : ∀ m ∈ d1.weights Try.prog 3, m ≤ reachBytes := fun m hm => by simpa using List.all_eq_true.1 hsz m (DataW.weights_mem_each (j := 1) rfl rfl m hm)
  have ok1 := (hval 1 3 v1 rfl rfl)
  obtain ⟨a1, rfl, rfl, rfl, w1⟩ := open_int Try.underlying3 ok1 h1
  clear hA0 hval0
  obtain ⟨u01, e01, g01, L01, le01, vr01, HR01, ro01, HS01, R01, sb01⟩ := Am.enter_slice (sz := 1) (Am.enter0 (P := Try.prog) W).1 (Am.enter0 (P := Try.prog) W).2.1 (Am.enter0 (P := Try.prog) W).2.2 (Am.okSlice Try.underlying22 t01.1) w01.1 (texts_flat a01) (fun hn => by obtain ⟨ad, e, _, _, hc⟩ := w01.cells hn; exact ⟨ad, e, hc⟩)
  obtain ⟨u02, e02, g02, L02, le02, vr02, HR02, ro02, HS02, R02, sb02⟩ := Am.enter_slice (sz := 1) HR01 ro01 HS01 (Am.okSlice Try.underlying22 t02.1) w02.1 (texts_flat a02) (fun hn => by obtain ⟨ad, e, _, _, hc⟩ := w02.cells hn; exact ⟨ad, e, hc⟩)
  have R01 := R01.mono sb02
  obtain ⟨u03, e03, g03, L03, le03, vr03, HR03, ro03, HS03, R03, sb03⟩ := Am.enter_slice (sz := 1) HR02 ro02 HS02 (Am.okSlice Try.underlying23 t03.1) w03.1 (ints_allFlat a03) (fun hn => by obtain ⟨ad, e, _, _, hc⟩ := w03.cells hn; exact ⟨ad, e, hc⟩)
  have R01 := R01.mono sb03
  have R02 := R02.mono sb03
  refine (Am.calls_true (us := [.agg #[.bool b0, .slice A01 n01 c01, .slice A02 n02 c02, .slice A03 n03 c03], _]) ((room_law (n := ⟨b0, a01, a02, a03⟩) (nv_of R01 R02 R03 o01 o02 x01 x02 x03 y01 y02 y03))) (.cons (.agg (.cons (.bool _) (.cons ((vr01.mono le02).mono le03) (.cons (vr02.mono le03) (.cons vr03 .nil))))) (.cons (Am.VRel.int _ _) .nil)) HR03 ro03 HS03).mono fun e W' ⟨he, bel⟩ => ?_
  subst he
  exact ⟨_, rfl, _, _, _, [], _, [], hW', trodAll_mk1 (shut_bool Try.underlying4 _), (trodAll_cons_mk (Below.trod laidOut (by kernel_rfl) (of_decide_eq_true (by kernel_rfl)) k0 bel lt0) (trodAll_cons_mk (Below.trod laidOut (by kernel_rfl) (of_decide_eq_true (by kernel_rfl)) k1 bel lt1) trodAll_mk0)), rfl, bel.frame _, fun h => by cases h⟩

theorem proved : Rows.NodeRoomSaid :=
  OpenClaim.holds_of_wide 7 Try.f7 rfl rfl rfl rfl rfl rfl rfl ⟨rfl, rfl, rfl, rfl, rfl⟩ rfl rfl rfl rfl rfl (by kernel_rfl) Try.func7 (by kernel_rfl)
    (of_decide_eq_true (by kernel_rfl)) (by unfold Func.isWrapper; first | (rw [if_pos (by decide +kernel)]; kernel_rfl) | (rw [if_neg (by decide +kernel)]; exact ⟨rfl, rfl⟩))
    (fun os started H enc _ => lifted os started H enc)
#print axioms proved
end Go.Proofs.Ytdffhllecojgcaa.nodeRoom
