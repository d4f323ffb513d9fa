/- Layer 5: New, copied, Copy, Bytes, marks past the end. -/
import Derived.Test.YteiiekfccecoiaaBFc
namespace Go.Am
variable {P : Program} {o : Oper} {a : Slots} {L L₁ : RL}
end Go.Am
namespace Go.Proofs.Yteiiekfccecoiaa.Z
open Go.Am
set_option linter.unusedVariables false
set_option maxRecDepth 20000

theorem makeT_bytes : makeT Try.prog 73 = some (5, 1, 1, [.int .u8 0]) := by kernel_rfl
theorem repL_u8 {n : Nat} : repL [Value.int .u8 0] n = byteCells (List.replicate n 0) := by
  rw [repL_one]; simp [byteCells]
theorem pk_zeros (n : Nat) (hn : n ≤ 32768) : pk (List.replicate n false) = List.replicate ((n + 7) / 8) 0 := (Rep.zeros hn).pk.symm
theorem New_ct {L : RL} (n : Nat) (hn : n ≤ 32768) : CS Try.prog 10 [.int .i64 (n : Nat)] L fun v L' => ∃ rm rb, v = .tuple #[ptr rm, .int .i64 0] ∧ L' = fm rm rb (List.replicate n false) L := by
  have hb1 : (!ileB 0 (n : Int)) = false := by rw [ileB_eq]; simp
  have hb2 : (!ileB (n : Int) 32768) = false := by rw [ileB_eq]; simp; omega
  refine CS.mk (fn := Try.f10) rfl rfl rfl rfl ?_
  repeat refine LS.seq ?_
  refine LS.region rfl ?_
  refine OS.pure rfl (fun _ => rfl) rfl ?_
  refine OS.pure rfl (fun _ => rfl) rfl ?_
  refine OS.nil ?_
  repeat refine LS.seq ?_
  refine LS.region rfl ?_
  refine OS.pure rfl (fun _ => rfl) rfl ?_
  refine OS.pure rfl (e_is (fun _ => rfl) (congrArg Value.bool hb1)) rfl ?_
  refine OS.pure rfl (fun _ => rfl) rfl ?_
  refine OS.pure rfl (fun _ => rfl) rfl ?_
  refine OS.pure rfl (e_is (fun _ => rfl) (congrArg Value.bool hb2)) rfl ?_
  refine OS.pure rfl (fun _ => rfl) rfl ?_
  refine OS.nil ?_
  refine LS.cond rfl (fun hc => by cases hc) (fun hc => ?_)
  refine LS.skip ?_
  repeat refine LS.seq ?_
  refine LS.region rfl ?_
  refine OS.pure rfl (fun _ => rfl) rfl ?_
  refine OS.pure rfl (fun _ => rfl) rfl ?_
  refine OS.call noGo rfl (fun _ => rfl) ((markBytes_ct n (by omega)).mono ?_)
  rintro v L' ⟨rfl, rfl⟩
  refine ⟨_, rfl, ?_⟩
  refine OS.fresh rfl (e_make (l := (n + 7) / 8) (c := (n + 7) / 8) rfl rfl rfl makeT_bytes (Nat.le_refl _) (by omega) (by omega)) (fun _ => rfl) (fun rb => ?_)
  rw [repL_u8, ← pk_zeros n hn]
  refine OS.pure rfl (fun _ => rfl) rfl ?_
  refine OS.fresh rfl (e_new (fun _ => rfl) rfl) (fun _ => rfl) (fun rm => ?_)
  refine OS.pure rfl (fun _ => rfl) rfl ?_
  refine OS.pure rfl (fun _ => rfl) rfl ?_
  refine OS.nil ?_
  refine LS.ret ⟨_, fun _ _ => rfl, ?_⟩
  refine ⟨rm, rb, rfl, ?_⟩
  have hl : (pk (List.replicate n false)).length = (n + 7) / 8 := by rw [pk_len]; simp
  simp only [fm, hl, List.length_replicate]
  rfl
theorem New_wrong {L : RL} (n : Int) (h : n < 0 ∨ 32768 < n) : CS Try.prog 10 [.int .i64 n] L fun v L' => v = .tuple #[.pointer none, .int .i64 1] ∧ L' = L := by
  refine CS.mk (fn := Try.f10) rfl rfl rfl rfl ?_
  repeat refine LS.seq ?_
  refine LS.region rfl ?_
  refine OS.pure rfl (fun _ => rfl) rfl ?_
  refine OS.pure rfl (fun _ => rfl) rfl ?_
  refine OS.nil ?_
  by_cases h0 : n < 0
  · have hb1 : (!ileB 0 n) = true := by rw [ileB_eq]; simpa using h0
    repeat refine LS.seq ?_
    refine LS.region rfl ?_
    refine OS.pure rfl (fun _ => rfl) rfl ?_
    refine OS.pure rfl (e_is (fun _ => rfl) (congrArg Value.bool hb1)) rfl ?_
    refine OS.pure rfl (fun _ => rfl) rfl ?_
    refine OS.skip rfl rfl ?_
    refine OS.skip rfl rfl ?_
    refine OS.pure rfl (fun _ => rfl) rfl ?_
    refine OS.nil ?_
    refine LS.cond rfl (fun hc => ?_) (fun hc => by cases hc)
    repeat refine LS.seq ?_
    refine LS.region rfl ?_
    refine OS.pure rfl (fun _ => rfl) rfl ?_
    refine OS.pure rfl (fun _ => rfl) rfl ?_
    refine OS.nil ?_
    refine LS.ret ⟨_, fun _ _ => rfl, ?_⟩
    exact ⟨rfl, rfl⟩
  · have hb1 : (!ileB 0 n) = false := by rw [ileB_eq]; simp; omega
    have hb2 : (!ileB n 32768) = true := by rw [ileB_eq]; simp; omega
    repeat refine LS.seq ?_
    refine LS.region rfl ?_
    refine OS.pure rfl (fun _ => rfl) rfl ?_
    refine OS.pure rfl (e_is (fun _ => rfl) (congrArg Value.bool hb1)) rfl ?_
    refine OS.pure rfl (fun _ => rfl) rfl ?_
    refine OS.pure rfl (fun _ => rfl) rfl ?_
    refine OS.pure rfl (e_is (fun _ => rfl) (congrArg Value.bool hb2)) rfl ?_
    refine OS.pure rfl (fun _ => rfl) rfl ?_
    refine OS.nil ?_
    refine LS.cond rfl (fun hc => ?_) (fun hc => by cases hc)
    repeat refine LS.seq ?_
    refine LS.region rfl ?_
    refine OS.pure rfl (fun _ => rfl) rfl ?_
    refine OS.pure rfl (fun _ => rfl) rfl ?_
    refine OS.nil ?_
    refine LS.ret ⟨_, fun _ _ => rfl, ?_⟩
    exact ⟨rfl, rfl⟩

end Go.Proofs.Yteiiekfccecoiaa.Z
