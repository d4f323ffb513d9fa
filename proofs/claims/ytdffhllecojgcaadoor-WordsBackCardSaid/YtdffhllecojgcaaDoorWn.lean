/- Layer 2: the examples that each statement asks. -/
import Derived.Test.YtdffhllecojgcaaDoorWm
namespace Go.Proofs.YtdffhllecojgcaaDoor
open Go.Am
set_option linter.unusedVariables false
set_option maxRecDepth 20000

abbrev x1 : List UInt8 := [112, 117, 115, 104, 32, 34, 97, 32, 98, 34, 32, 120, 35, 121, 32, 35, 32, 122]
abbrev x1W : List (List UInt8) := [[112, 117, 115, 104], [97, 32, 98], [120, 35, 121]]
abbrev x2W : List (List UInt8) := [[]]
abbrev x3W : List (List UInt8) := [[112, 117, 115, 104], [97, 32, 98], [], [35], [120, 35], [255]]
abbrev x3 : List UInt8 := [112, 117, 115, 104, 32, 34, 97, 32, 98, 34, 32, 34, 34, 32, 34, 35, 34, 32, 120, 35, 32, 34, 92, 120, 102, 102, 34]
theorem ex1 : wordsOf x1 = x1W ∧ errOf x1 = 0 := ⟨by kernel_rfl, by kernel_rfl⟩
theorem ex2 : wordsOf [34, 34] = x2W ∧ errOf [34, 34] = 0 := ⟨by kernel_rfl, by kernel_rfl⟩
theorem ex3 : joinV x3W = .tuple #[str x3, .int .i64 0] := by kernel_rfl
theorem awake_ct {L : RL} : CS Tryd.prog 9 [] L fun v _ => v = .bool true := by
  refine CS.mk (fn := Tryd.f9) rfl rfl rfl rfl ?_
  repeat refine LS.seq ?_
  refine LS.region rfl ?_
  refine OS.pure rfl (fun _ => rfl) rfl ?_
  refine OS.nil ?_
  repeat refine LS.seq ?_
  refine LS.region rfl ?_
  refine OS.call noGo rfl (fun _ => rfl) ((Split_ct x1 (by decide)).mono ?_)
  rintro v L1 ⟨u1, rfl, g1⟩
  rw [ex1.1] at g1
  rw [ex1.2]
  refine ⟨_, rfl, ?_⟩
  refine OS.pure rfl (fun _ => rfl) rfl ?_
  refine OS.pure rfl (fun _ => rfl) rfl ?_
  refine OS.pure rfl (fun _ => rfl) rfl ?_
  refine OS.pure rfl (fun _ => rfl) rfl ?_
  refine OS.pure rfl (fun _ => rfl) rfl ?_
  refine OS.nil ?_
  repeat refine LS.seq ?_
  refine LS.region rfl ?_
  refine OS.call noGo rfl (fun _ => rfl) ((Split_ct [34, 34] (by decide)).mono ?_)
  rintro v L2 ⟨u2, rfl, g2⟩
  rw [ex2.1] at g2
  rw [ex2.2]
  refine ⟨_, rfl, ?_⟩
  refine OS.pure rfl (fun _ => rfl) rfl ?_
  refine OS.pure rfl (fun _ => rfl) rfl ?_
  refine OS.pure rfl (fun _ => rfl) rfl ?_
  refine OS.pure rfl (fun _ => rfl) rfl ?_
  refine OS.pure rfl (fun _ => rfl) rfl ?_
  refine OS.nil ?_
  repeat refine LS.seq ?_
  refine LS.region rfl ?_
  refine OS.fresh rfl (e_new (fun _ => rfl) rfl) (fun _ => rfl) (fun r3 => ?_)
  refine OS.call noGo rfl (fun _ => rfl) ((Join_ct (ws := x3W) (SV.row (e := 9) (r := r3) (List.mem_cons_self ..) rfl) (by decide) (by intro w hw; simp at hw; rcases hw with rfl | rfl | rfl | rfl | rfl | rfl <;> decide)).mono ?_)
  rintro v L3 ⟨rfl, rfl⟩
  rw [ex3]
  refine ⟨_, rfl, ?_⟩
  refine OS.pure rfl (fun _ => rfl) rfl ?_
  refine OS.pure rfl (fun _ => rfl) rfl ?_
  refine OS.pure rfl (fun _ => rfl) rfl ?_
  refine OS.pure rfl (fun _ => rfl) rfl ?_
  refine OS.pure rfl (fun _ => rfl) rfl ?_
  refine OS.nil ?_
  repeat refine LS.seq ?_
  refine LS.region rfl ?_
  refine OS.pure rfl (fun _ => rfl) rfl ?_
  refine OS.pure rfl (fun _ => rfl) rfl ?_
  refine OS.pure rfl (fun _ => rfl) rfl ?_
  refine OS.pure rfl (fun _ => rfl) rfl ?_
  refine OS.fresh rfl (e_new (fun _ => rfl) rfl) (fun _ => rfl) (fun r4 => ?_)
  refine OS.call noGo rfl (fun _ => rfl) ((Same_ct (A := x1W) (B := x1W) (g1.sv.mono fun p hp => by simp [g2.mem p hp]) (SV.row (e := 9) (r := r4) (List.mem_cons_self ..) rfl) (by decide)).mono ?_)
  rintro v L4 ⟨rfl, rfl⟩
  rw [decide_eq_true (rfl : x1W = x1W)]
  refine ⟨_, rfl, ?_⟩
  refine OS.pure rfl (fun _ => rfl) rfl ?_
  refine OS.pure rfl (fun _ => rfl) rfl ?_
  refine OS.pure rfl (fun _ => rfl) rfl ?_
  refine OS.pure rfl (fun _ => rfl) rfl ?_
  refine OS.pure rfl (fun _ => rfl) rfl ?_
  refine OS.pure rfl (fun _ => rfl) rfl ?_
  refine OS.pure rfl (fun _ => rfl) rfl ?_
  refine OS.fresh rfl (e_new (fun _ => rfl) rfl) (fun _ => rfl) (fun r5 => ?_)
  refine OS.call noGo rfl (fun _ => rfl) ((Same_ct (A := x2W) (B := x2W) (g2.sv.mono fun p hp => by simp [hp]) (SV.row (e := 9) (r := r5) (List.mem_cons_self ..) rfl) (by decide)).mono ?_)
  rintro v L5 ⟨rfl, rfl⟩
  rw [decide_eq_true (rfl : x2W = x2W)]
  refine ⟨_, rfl, ?_⟩
  refine OS.pure rfl (fun _ => rfl) rfl ?_
  refine OS.pure rfl (fun _ => rfl) rfl ?_
  refine OS.pure rfl (fun _ => rfl) rfl ?_
  refine OS.pure rfl (fun _ => rfl) rfl ?_
  refine OS.pure rfl (fun _ => rfl) rfl ?_
  refine OS.pure rfl (fun _ => rfl) rfl ?_
  refine OS.pure rfl (fun _ => rfl) rfl ?_
  refine OS.pure rfl (fun _ => rfl) rfl ?_
  refine OS.pure rfl (fun _ => rfl) rfl ?_
  refine OS.pure rfl (fun _ => rfl) rfl ?_
  refine OS.nil ?_
  refine LS.ret ⟨_, fun _ _ => rfl, ?_⟩
  rfl
end Go.Proofs.YtdffhllecojgcaaDoor
