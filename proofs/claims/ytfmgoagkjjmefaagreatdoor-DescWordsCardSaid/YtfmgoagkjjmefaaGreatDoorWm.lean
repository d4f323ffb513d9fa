/- Layer 2: Split as it is called; are two lists of words the same; the examples that each statement asks. -/
import Derived.Test.YtfmgoagkjjmefaaGreatDoorWl
namespace Go.Proofs.YtfmgoagkjjmefaaGreatDoor
open Go.Am
set_option linter.unusedVariables false
set_option maxRecDepth 20000

def wordsOf (s : List UInt8) : List (List UInt8) := if s.length > 400 then [] else (splitW s).getD []
def errOf (s : List UInt8) : Int := if s.length > 400 then 40 else if splitW s = none then 4 else 0
/-- A list of words, and an error. -/
def SQ (s : List UInt8) (L : RL) (v : Value) (L' : RL) : Prop := ∃ u, v = .tuple #[u, .int .i64 (errOf s)] ∧ GV 9 1 L u (wordsOf s).length (strs (wordsOf s)) L'
theorem SP.sq {s : List UInt8} {L L' : RL} {v : Value} (h : SP s L v L') : SQ s L v L' := by
  unfold SQ wordsOf errOf
  rcases h with ⟨h1, rfl, rfl⟩ | ⟨h1, h2, rfl, rfl⟩ | ⟨h1, ws, u, h2, rfl, hg⟩
  · rw [if_pos h1, if_pos h1]
    exact ⟨_, rfl, GV.nil⟩
  · have h0 : ¬ s.length > 400 := by omega
    rw [if_neg h0, if_neg h0, if_pos h2, h2]
    exact ⟨_, rfl, GV.nil⟩
  · have h0 : ¬ s.length > 400 := by omega
    have h3 : ¬ splitW s = none := by rw [h2]; simp
    rw [if_neg h0, if_neg h0, if_neg h3, h2]
    exact ⟨_, rfl, hg⟩
theorem Split_ct {L : RL} (s : List UInt8) (hs : s.length ≤ 9000000000000000) : CS Tryz.prog 57 [str s] L fun v L' => SQ s L v L' := by
  suffices h : CS Tryz.prog 57 [str s] L fun v L' => ∃ rm, SQ s (dg rm L) v L' by
    refine h.less fun v L' ⟨rm, u, h1, hg⟩ => ?_
    rcases hg with ⟨h2, h3, h4, rfl⟩ | ⟨r, h2, h3, rfl⟩
    · exact ⟨L, Sub.tail, u, h1, .inl ⟨h2, h3, h4, rfl⟩⟩
    · exact ⟨_, ⟨[(rm, .map (digE 16) 16)], List.Perm.cons _ (List.perm_append_comm (l₁ := [(rm, .map (digE 16) 16)]) (l₂ := L))⟩, u, h1, .inr ⟨r, h2, h3, rfl⟩⟩
  refine CS.mk (fn := Tryz.f57) rfl rfl rfl rfl ?_
  repeat refine LS.seq ?_
  refine LS.region rfl ?_
  refine OS.pure rfl (fun _ => rfl) rfl ?_
  refine OS.pure rfl (fun _ => rfl) rfl ?_
  refine OS.nil ?_
  repeat refine LS.seq ?_
  refine LS.region rfl ?_
  refine OS.pure rfl (fun _ => rfl) rfl ?_
  refine OS.call noGo rfl (fun _ => rfl) ((digits_ct).mono ?_)
  rintro v L' ⟨rm, rfl, rfl⟩
  refine ⟨_, rfl, ?_⟩
  refine OS.call noGo rfl (fun _ => rfl) ((split_ct (List.mem_cons_self ..) s hs).mono ?_)
  rintro v L₁ h
  obtain ⟨u, rfl, hg⟩ := h.sq
  refine ⟨_, rfl, ?_⟩
  refine OS.pure rfl (fun _ => rfl) rfl ?_
  refine OS.pure rfl (fun _ => rfl) rfl ?_
  refine OS.pure rfl (fun _ => rfl) rfl ?_
  refine OS.pure rfl (fun _ => rfl) rfl ?_
  refine OS.nil ?_
  refine LS.ret ⟨_, fun _ _ => rfl, ?_⟩
  exact ⟨rm, u, rfl, hg⟩
theorem strs_at {A : List (List UInt8)} {j : Nat} (h : j < A.length) : (strs A)[j]? = some (str (A[j]'h)) := by simp [strs, h]
theorem Same_ct {L : RL} {v1 v2 : Value} {A B : List (List UInt8)} (h1 : SV 1 L v1 A.length (strs A)) (h2 : SV 1 L v2 B.length (strs B)) (hA : A.length ≤ 9000000000000000) : CS Tryz.prog 50 [v1, v2] L fun v L' => v = .bool (decide (A = B)) ∧ L' = L := by
  by_cases hl : A.length = B.length
  · have bl : (!ieqB (A.length : Int) (B.length : Nat)) = false := by rw [ieqB_eq]; simp [hl]
    refine CS.mk (fn := Tryz.f50) rfl rfl rfl rfl ?_
    repeat refine LS.seq ?_
    refine LS.region rfl ?_
    refine OS.pure rfl (fun _ => rfl) rfl ?_
    refine OS.nil ?_
    repeat refine LS.seq ?_
    refine LS.region rfl ?_
    refine OS.pure rfl (fun _ => rfl) rfl ?_
    refine OS.pure rfl (e_len h1 rfl rfl rfl rfl rfl) rfl ?_
    refine OS.pure rfl (fun _ => rfl) rfl ?_
    refine OS.pure rfl (e_len h2 rfl rfl rfl rfl rfl) rfl ?_
    refine OS.pure rfl (e_is (fun _ => rfl) (congrArg Value.bool bl)) rfl ?_
    refine OS.nil ?_
    repeat refine LS.seq ?_
    refine LS.cond rfl (fun h => ?_) (fun h => ?_)
    · cases h
    refine LS.skip ?_
    repeat refine LS.seq ?_
    refine LS.region rfl ?_
    refine OS.pure rfl (fun _ => rfl) rfl ?_
    refine OS.nil ?_
    repeat refine LS.seq ?_
    refine LS.block ?_
    refine LS.loopJ [0, 1, 5] (fun q a L' => ∃ j : Nat, q = A.length - j ∧ j ≤ A.length ∧ A.take j = B.take j ∧ L' = L ∧ a = [v1, v2, .chan none, .chan none, .chan none, .int .i64 (j : Nat), .chan none, .chan none, .chan none, .chan none, .chan none, .chan none, .chan none, .chan none, .chan none, .chan none, .chan none, .chan none, .chan none, .chan none, .chan none, .chan none, .chan none, .chan none, .chan none, .chan none]) (n := A.length) rfl ⟨0, rfl, by omega, rfl, rfl, rfl⟩ ?_
    rintro q a L' ⟨j, rfl, hj, ht, rfl, rfl⟩
    repeat refine LS.seq ?_
    refine LS.region rfl ?_
    refine OS.pure rfl (fun _ => rfl) rfl ?_
    refine OS.pure rfl (fun _ => rfl) rfl ?_
    refine OS.pure rfl (e_len h1 rfl rfl rfl rfl rfl) rfl ?_
    refine OS.pure rfl (fun _ => rfl) rfl ?_
    refine OS.nil ?_
    repeat refine LS.seq ?_
    refine LS.cond rfl (fun hc => ?_) (fun hc => ?_)
    · have hc : (j : Int) < A.length := lt_of hc
      have hjA : j < A.length := by omega
      have hjB : j < B.length := by omega
      refine LS.skip ?_
      repeat refine LS.seq ?_
      refine LS.block ?_
      repeat refine LS.seq ?_
      refine LS.drawn noGo mixed [(0, false), (1, false), (2, false), (3, false), (4, false), (5, false), (6, false), (7, false), (8, false)] rfl rfl (by kernel_rfl) ?_
      refine ODS.pure rfl rfl (fun _ => rfl) rfl ?_
      refine ODS.pure rfl rfl (fun _ => rfl) rfl ?_
      refine ODS.at1 h1 (strs_at hjA) rfl rfl rfl rfl rfl rfl rfl (fun r off row cs₀ m1 m2 m3 => ⟨_, rfl, ?_⟩)
      refine ODS.read rfl rfl (e_loadm m1 m2 rfl rfl (part_one rfl m3)) rfl ?_
      refine ODS.pure rfl rfl (fun _ => rfl) rfl ?_
      refine ODS.pure rfl rfl (fun _ => rfl) rfl ?_
      refine ODS.at1 h2 (strs_at hjB) rfl rfl rfl rfl rfl rfl rfl (fun r' off' row' cs' m1' m2' m3' => ⟨_, rfl, ?_⟩)
      refine ODS.read rfl rfl (e_loadm m1' m2' rfl rfl (part_one rfl m3')) rfl ?_
      refine ODS.pure rfl rfl (fun _ => rfl) rfl ?_
      refine ODS.nil ?_
      repeat refine LS.seq ?_
      refine LS.cond rfl (fun he => ?_) (fun he => ?_)
      · have he : (!bytesEq (A[j]'hjA) (B[j]'hjB)) = true := he
        rw [bytesEq_eq] at he
        have he : A[j]'hjA ≠ B[j]'hjB := by simpa using he
        repeat refine LS.seq ?_
        refine LS.region rfl ?_
        refine OS.pure rfl (fun _ => rfl) rfl ?_
        refine OS.nil ?_
        refine LS.ret ⟨_, fun _ _ => rfl, ?_⟩
        refine ⟨?_, rfl⟩
        have : A ≠ B := fun e => he (by subst e; rfl)
        simp [tupleB, this]
      have he : (!bytesEq (A[j]'hjA) (B[j]'hjB)) = false := he
      rw [bytesEq_eq] at he
      have he : A[j]'hjA = B[j]'hjB := by simpa using he
      refine LS.skip ?_
      repeat refine LS.seq ?_
      refine LS.region rfl ?_
      refine OS.pure rfl (fun _ => rfl) rfl ?_
      refine OS.pure rfl (e_add (m := (j : Int)) (n := 1) rfl rfl rfl (in_i64 (by omega) (by omega))) rfl ?_
      rw [show ((j : Nat) : Int) + 1 = ((j + 1 : Nat) : Int) by omega]
      refine OS.pure rfl (fun _ => rfl) rfl ?_
      refine OS.nil ?_
      exact ⟨A.length - (j + 1), by omega, j + 1, rfl, by omega, by rw [List.take_add_one, List.take_add_one, ht, List.getElem?_eq_getElem hjA, List.getElem?_eq_getElem hjB, he], rfl, rfl⟩
    · have hc : (A.length : Int) ≤ j := nlt_of hc
      rw [List.take_of_length_le (by omega), List.take_of_length_le (by omega)] at ht
      refine LS.exit ?_
      repeat refine LS.seq ?_
      refine LS.region rfl ?_
      refine OS.pure rfl (fun _ => rfl) rfl ?_
      refine OS.nil ?_
      refine LS.ret ⟨_, fun _ _ => rfl, ?_⟩
      exact ⟨by simp [tupleB, ht], rfl⟩
  · have bl : (!ieqB (A.length : Int) (B.length : Nat)) = true := by rw [ieqB_eq]; simp; omega
    have hne : A ≠ B := fun e => hl (by rw [e])
    refine CS.mk (fn := Tryz.f50) rfl rfl rfl rfl ?_
    repeat refine LS.seq ?_
    refine LS.region rfl ?_
    refine OS.pure rfl (fun _ => rfl) rfl ?_
    refine OS.nil ?_
    repeat refine LS.seq ?_
    refine LS.region rfl ?_
    refine OS.pure rfl (fun _ => rfl) rfl ?_
    refine OS.pure rfl (e_len h1 rfl rfl rfl rfl rfl) rfl ?_
    refine OS.pure rfl (fun _ => rfl) rfl ?_
    refine OS.pure rfl (e_len h2 rfl rfl rfl rfl rfl) rfl ?_
    refine OS.pure rfl (e_is (fun _ => rfl) (congrArg Value.bool bl)) rfl ?_
    refine OS.nil ?_
    repeat refine LS.seq ?_
    refine LS.cond rfl (fun h => ?_) (fun h => ?_)
    · repeat refine LS.seq ?_
      refine LS.region rfl ?_
      refine OS.pure rfl (fun _ => rfl) rfl ?_
      refine OS.nil ?_
      refine LS.ret ⟨_, fun _ _ => rfl, ?_⟩
      exact ⟨by simp [tupleB, hne], rfl⟩
    · cases h
end Go.Proofs.YtfmgoagkjjmefaaGreatDoor
