/- Layer 2: WordsJoin's law. -/
import Derived.Test.YtdffhllecojgcaaDoorWq
namespace Go.Proofs.YtdffhllecojgcaaDoor
open Go.Am
set_option linter.unusedVariables false
set_option maxRecDepth 20000

theorem strs_one : ∀ ws : List (List UInt8), allOne (strs ws) = true
  | [] => rfl
  | w :: ws => by simp only [strs, List.map_cons, allOne]; exact strs_one ws
theorem jv_two (ws : List (List UInt8)) : ∃ (s : List UInt8) (e : Int), joinV ws = .tuple #[str s, .int .i64 e] := by
  unfold joinV
  split
  · exact ⟨_, _, rfl⟩
  · exact ⟨_, _, rfl⟩
theorem joinLaw_ct {L : RL} {v : Value} {n : Nat} {ws : List (List UInt8)} (hr : RO 1 L v n (strs ws)) (hn : n ≤ 140737488351232) (hw : ∀ w ∈ ws, w.length ≤ 140737488351232) :
    CS Tryd.prog 4 [v] L fun v _ => v = .bool true := by
  have hv0 := hr.sv
  have hlen : ws.length = n := by have := hv0.len; rw [strs_len] at this; omega
  subst hlen
  obtain ⟨s, e, hj⟩ := jv_two ws
  refine CS.mk (fn := Tryd.f4) rfl rfl rfl rfl ?_
  repeat refine LS.seq ?_
  refine LS.region rfl ?_
  refine OS.pure rfl (fun _ => rfl) rfl ?_
  refine OS.nil ?_
  repeat refine LS.seq ?_
  refine LS.region rfl ?_
  refine OS.pure rfl (fun _ => rfl) rfl ?_
  refine OS.call noGo rfl (fun _ => rfl) ((long_ct hv0 (by omega) hw).mono ?_)
  rintro v' L' ⟨b, rfl, hb, rfl⟩
  refine ⟨_, rfl, ?_⟩
  refine OS.nil ?_
  repeat refine LS.seq ?_
  refine LS.cond rfl (fun h => ?_) (fun h => ?_)
  · repeat refine LS.seq ?_
    refine LS.region rfl ?_
    refine OS.call noGo rfl (fun _ => rfl) ((awake_ct).mono ?_)
    rintro v' L2 rfl
    refine ⟨_, rfl, ?_⟩
    refine OS.pure rfl (fun _ => rfl) rfl ?_
    refine OS.nil ?_
    refine LS.ret ⟨_, fun _ _ => rfl, ?_⟩
    rfl
  obtain ⟨h5, hw5⟩ := hb h
  refine LS.skip ?_
  repeat refine LS.seq ?_
  refine LS.region rfl ?_
  refine OS.fresh rfl (e_new (fun _ => rfl) rfl) (fun _ => rfl) (fun r2 => ?_)
  refine OS.opened 11 0 (sz := 1) rfl rfl rfl (by simp) (by decide) rfl ?_
  refine OS.pure rfl (fun _ => rfl) rfl ?_
  refine OS.fresh rfl (e_appendSV 0 (sz := 1) (bts := 16) (old := []) hv0.cons (strs_one ws) rfl rfl rfl (by omega) (by omega) rfl cut_zero rfl) (fun _ => rfl) (fun rN => ?_)
  rw [Nat.zero_add]
  refine OS.call noGo rfl (fun _ => rfl) ((Join_ct (ws := ws) (SV.row (e := 9) (r := rN) (n := ws.length) (cap := openCap) (List.mem_cons_self ..) (by rw [strs_len]; omega)) (by omega) (fun w hm => Nat.le_trans (hw w hm) (by decide))).mono ?_)
  rintro v' L2 ⟨rfl, rfl⟩
  rw [hj]
  refine ⟨_, rfl, ?_⟩
  refine OS.pure rfl (fun _ => rfl) rfl ?_
  refine OS.pure rfl (fun _ => rfl) rfl ?_
  refine OS.pure rfl (fun _ => rfl) rfl ?_
  refine OS.pure rfl (fun _ => rfl) rfl ?_
  refine OS.pure rfl (fun _ => rfl) rfl ?_
  refine OS.nil ?_
  repeat refine LS.seq ?_
  refine LS.region rfl ?_
  refine OS.pure rfl (fun _ => rfl) rfl ?_
  refine OS.call noGo rfl (fun _ => rfl) ((refJoin_ct (L := (rN, _) :: L') hv0.cons (by omega) hw5).mono ?_)
  rintro v' L2 ⟨rfl, rfl⟩
  rw [hj]
  refine ⟨_, rfl, ?_⟩
  refine OS.pure rfl (fun _ => rfl) rfl ?_
  refine OS.pure rfl (fun _ => rfl) rfl ?_
  refine OS.pure rfl (fun _ => rfl) rfl ?_
  refine OS.pure rfl (fun _ => rfl) rfl ?_
  refine OS.pure rfl (fun _ => rfl) rfl ?_
  refine OS.nil ?_
  have be : bytesEq s s = true := by rw [bytesEq_eq]; simp
  have be2 : ieqB e e = true := by rw [ieqB_eq]; simp
  repeat refine LS.seq ?_
  refine LS.region rfl ?_
  refine OS.pure rfl (fun _ => rfl) rfl ?_
  refine OS.pure rfl (fun _ => rfl) rfl ?_
  refine OS.pure rfl (e_is (fun _ => rfl) (congrArg Value.bool be)) rfl ?_
  refine OS.pure rfl (fun _ => rfl) rfl ?_
  refine OS.pure rfl (fun _ => rfl) rfl ?_
  refine OS.pure rfl (fun _ => rfl) rfl ?_
  refine OS.pure rfl (e_is (fun _ => rfl) (congrArg Value.bool be2)) rfl ?_
  refine OS.pure rfl (fun _ => rfl) rfl ?_
  refine OS.pure rfl (fun _ => rfl) rfl ?_
  refine OS.call noGo rfl (fun _ => rfl) ((awake_ct).mono ?_)
  rintro v' L3 rfl
  refine ⟨_, rfl, ?_⟩
  refine OS.pure rfl (fun _ => rfl) rfl ?_
  refine OS.pure rfl (fun _ => rfl) rfl ?_
  refine OS.nil ?_
  refine LS.ret ⟨_, fun _ _ => rfl, ?_⟩
  rfl
end Go.Proofs.YtdffhllecojgcaaDoor
