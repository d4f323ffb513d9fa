/- Layer 8: what BlobNeeds comes to. -/
import Derived.Test.YteiiekfccecoiaaBp
namespace Go.Proofs.Yteiiekfccecoiaa
open Go.Am
set_option linter.unusedVariables false
set_option maxRecDepth 20000

theorem blobNeeds_ct {L : RL} (n : Int) : CS Try.prog 4 [.int .i64 n] L fun v L' => v = .bool true := by
  have hm0 : -5000000 < n.tmod 5000000 := Int.lt_tmod_of_pos n (by decide)
  have hm1 : n.tmod 5000000 < 5000000 := Int.tmod_lt_of_pos n (by decide)
  generalize hm : n.tmod 5000000 = m at hm0 hm1
  have hi : inK .i64 m = true := in_i64 (by omega) (by omega)
  refine CS.mk (fn := Try.f4) rfl rfl rfl rfl ?_
  repeat refine LS.seq ?_
  refine LS.region rfl ?_
  refine OS.pure rfl (fun _ => rfl) rfl ?_
  refine OS.nil ?_
  repeat refine LS.seq ?_
  refine LS.region rfl ?_
  refine OS.pure rfl (fun _ => rfl) rfl ?_
  refine OS.pure rfl (e_is (fun _ => by simp only [opB, aev, eqOk, binB]; rfl) (congrArg (Value.int .i64) hm)) rfl ?_
  refine OS.pure rfl (fun _ => rfl) rfl ?_
  refine OS.nil ?_
  obtain ⟨w, h1, h2⟩ : ∃ w : Int, (∀ L, CS Try.prog 27 [.int .i64 m] L fun v L' => v = .int .i64 w ∧ L' = L) ∧ (∀ L, CS Try.prog 18 [.int .i64 m] L fun v L' => v = .int .i64 w ∧ L' = L) := by
    rcases Int.lt_or_le m 0 with h | h
    · exact ⟨0, fun L => Need_neg m h, fun L => refNeed_neg m h⟩
    · obtain ⟨k, rfl⟩ := Int.eq_ofNat_of_zero_le h
      exact ⟨_, fun L => Need_ct k (by omega), fun L => refNeed_ct k (by omega)⟩
  have hw : ieqB w w = true := by rw [ieqB_eq]; simp
  repeat refine LS.seq ?_
  refine LS.region rfl ?_
  refine OS.pure rfl (fun _ => rfl) rfl ?_
  refine OS.call noGo rfl (fun _ => rfl) ((h1 _).mono ?_)
  rintro v L' ⟨rfl, rfl⟩
  refine ⟨_, rfl, ?_⟩
  refine OS.pure rfl (fun _ => rfl) rfl ?_
  refine OS.call noGo rfl (fun _ => rfl) ((h2 _).mono ?_)
  rintro v L' ⟨rfl, rfl⟩
  refine ⟨_, rfl, ?_⟩
  refine OS.pure rfl (e_is (fun _ => rfl) (congrArg Value.bool hw)) rfl ?_
  refine OS.pure rfl (fun _ => rfl) rfl ?_
  refine OS.call noGo rfl (fun _ => rfl) ((awake_ct).mono ?_)
  rintro v L' ⟨rfl, rfl⟩
  refine ⟨_, rfl, ?_⟩
  refine OS.pure rfl (fun _ => rfl) rfl ?_
  refine OS.pure rfl (fun _ => rfl) rfl ?_
  refine OS.nil ?_
  refine LS.ret ⟨_, fun _ _ => rfl, ?_⟩
  rfl
end Go.Proofs.Yteiiekfccecoiaa
