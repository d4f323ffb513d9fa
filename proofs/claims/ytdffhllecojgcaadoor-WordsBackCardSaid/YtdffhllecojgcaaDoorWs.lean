/- Layer 2: WordsBack's law. -/
import Derived.Test.YtdffhllecojgcaaDoorWr
namespace Go.Proofs.YtdffhllecojgcaaDoor
open Go.Am
set_option linter.unusedVariables false
set_option maxRecDepth 20000

theorem splF_words : ∀ (f : Nat) (s : List UInt8) (ws : List (List UInt8)), splF f s = some ws → ∀ w ∈ ws, w.length ≤ s.length
  | 0, _, _, h => by cases h
  | f + 1, [], ws, h => by simp [splF] at h; subst h; simp
  | f + 1, c :: t, ws, h => by
    rw [splF] at h
    split at h
    · split at h
      · cases h
      · simp at h; subst h; simp
    · split at h
      · cases h
      · rename_i h1 h2
        have hlt := next_lt h2
        cases hx : splF f (((c :: t).drop (wordK (c :: t)).2).dropWhile isBl) with
        | none => rw [hx] at h; cases h
        | some vs =>
          rw [hx] at h
          simp at h
          subst h
          intro w hw
          rcases List.mem_cons.1 hw with rfl | hw
          · exact (word_le (c :: t)).2
          · have := splF_words f _ vs hx w hw
            omega
theorem words_le (s : List UInt8) : ∀ w ∈ wordsOf s, w.length ≤ s.length := by
  intro w hw
  unfold wordsOf at hw
  split at hw
  · cases hw
  · cases h : splitW s with
    | none => rw [h] at hw; cases hw
    | some ws =>
      rw [h] at hw
      exact Nat.le_trans (splF_words _ _ _ h w hw) (dw_le s)
theorem count_le (s : List UInt8) : (wordsOf s).length ≤ s.length := by
  unfold wordsOf
  split
  · simp
  · exact wcount s
theorem joined_words {ws : List (List UInt8)} {s : List UInt8} (h : joinW ws = some s) : wordsOf s = ws ∧ errOf s = 0 := by
  have h1 := joined_split h
  have h2 := (joinW_eq h).2
  unfold wordsOf errOf
  rw [if_neg (by omega), if_neg (by omega), h1]
  exact ⟨rfl, if_neg (by simp)⟩
theorem errOf_cases (s : List UInt8) : errOf s = 0 ∨ (errOf s ≠ 0 ∧ ieqB (errOf s) 0 = false) := by
  by_cases h : errOf s = 0
  · exact .inl h
  · exact .inr ⟨h, by rw [ieqB_eq]; simpa using h⟩
theorem awake_sub {L : RL} : CS Tryd.prog 9 [] L fun v L' => v = .bool true ∧ L' = L :=
  CS.still (R := fun v => v = .bool true) (awake_ct.mono fun v L' h => ⟨h, by rw [h]; rfl⟩) rfl
theorem backLaw_ct {L : RL} {v : Value} {n : Nat} {ws : List (List UInt8)} (line : List UInt8) (hr : RO 1 L v n (strs ws)) (hn : n ≤ 140737488351232) (hw : ∀ w ∈ ws, w.length ≤ 140737488351232) (hs : line.length ≤ 9000000000000000) :
    CS Tryd.prog 7 [v, str line] L fun v _ => v = .bool true := by
  have hv0 := hr.sv
  have hlen : ws.length = n := by have := hv0.len; rw [strs_len] at this; omega
  subst hlen
  refine CS.mk (fn := Tryd.f7) rfl rfl rfl rfl ?_
  repeat refine LS.seq ?_
  refine LS.region rfl ?_
  refine OS.pure rfl (fun _ => rfl) rfl ?_
  refine OS.nil ?_
  repeat refine LS.seq ?_
  refine LS.mid [0, 1, 22] (fun a L' => ∃ b, L' = L ∧ a = [v, str line, .chan none, .chan none, .chan none, .chan none, .chan none, .chan none, .chan none, .chan none, .chan none, .chan none, .chan none, .chan none, .chan none, .chan none, .chan none, .chan none, .chan none, .chan none, .chan none, .chan none, .bool b, .chan none, .chan none, .chan none, .chan none, .chan none, .chan none, .chan none, .chan none, .chan none, .chan none, .chan none, .chan none, .chan none, .chan none, .chan none, .chan none, .chan none, .chan none, .chan none, .chan none, .chan none, .chan none, .chan none, .chan none, .chan none, .chan none, .chan none, .chan none, .chan none, .chan none, .chan none, .chan none, .chan none, .chan none, .chan none, .chan none, .chan none, .chan none, .chan none, .chan none, .chan none, .chan none, .chan none, .chan none, .chan none, .chan none, .chan none, .chan none, .chan none]) ?_ ?_
  · refine LS.region rfl ?_
    refine OS.pure rfl (fun _ => rfl) rfl ?_
    refine OS.call noGo rfl (fun _ => rfl) ((long_ct hv0 (by omega) hw).mono ?_)
    rintro v' L' ⟨b, rfl, hb, rfl⟩
    cases b with
    | true =>
      refine ⟨_, rfl, ?_⟩
      refine OS.pure rfl (fun _ => rfl) rfl ?_
      refine OS.skip rfl rfl ?_
      refine OS.skip rfl rfl ?_
      refine OS.skip rfl rfl ?_
      refine OS.pure rfl (fun _ => rfl) rfl ?_
      refine OS.pure rfl (fun _ => rfl) rfl ?_
      refine OS.skip rfl rfl ?_
      refine OS.skip rfl rfl ?_
      refine OS.pure rfl (fun _ => rfl) rfl ?_
      refine OS.nil ?_
      exact ⟨_, rfl, rfl⟩
    | false =>
      by_cases hl : line.length > 5000
      · have b1 : (!ileB (line.length : Int) 5000) = true := by rw [ileB_eq]; simp; omega
        refine ⟨_, rfl, ?_⟩
        refine OS.pure rfl (fun _ => rfl) rfl ?_
        refine OS.pure rfl (fun _ => rfl) rfl ?_
        refine OS.pure rfl (fun _ => rfl) rfl ?_
        refine OS.pure rfl (e_is (fun _ => rfl) (congrArg Value.bool b1)) rfl ?_
        refine OS.pure rfl (fun _ => rfl) rfl ?_
        refine OS.pure rfl (fun _ => rfl) rfl ?_
        refine OS.skip rfl rfl ?_
        refine OS.skip rfl rfl ?_
        refine OS.pure rfl (fun _ => rfl) rfl ?_
        refine OS.nil ?_
        exact ⟨_, rfl, rfl⟩
      · have b1 : (!ileB (line.length : Int) 5000) = false := by rw [ileB_eq]; simp; omega
        refine ⟨_, rfl, ?_⟩
        refine OS.pure rfl (fun _ => rfl) rfl ?_
        refine OS.pure rfl (fun _ => rfl) rfl ?_
        refine OS.pure rfl (fun _ => rfl) rfl ?_
        refine OS.pure rfl (e_is (fun _ => rfl) (congrArg Value.bool b1)) rfl ?_
        refine OS.pure rfl (fun _ => rfl) rfl ?_
        refine OS.pure rfl (fun _ => rfl) rfl ?_
        refine OS.call noGo rfl (fun _ => rfl) ((awake_sub).mono ?_)
        rintro v' L3 ⟨rfl, rfl⟩
        refine ⟨_, rfl, ?_⟩
        refine OS.pure rfl (fun _ => rfl) rfl ?_
        refine OS.pure rfl (fun _ => rfl) rfl ?_
        refine OS.nil ?_
        exact ⟨_, rfl, rfl⟩
  rintro a L' ⟨b, rfl, rfl⟩
  repeat refine LS.seq ?_
  refine LS.cond rfl (fun h => ?_) (fun h => ?_)
  · repeat refine LS.seq ?_
    refine LS.region rfl ?_
    refine OS.call noGo rfl (fun _ => rfl) ((awake_ct).mono ?_)
    rintro v' L2 rfl
    refine ⟨_, rfl, ?_⟩
    refine OS.pure rfl (fun _ => rfl) rfl ?_
    refine OS.nil ?_
    refine LS.ret ⟨_, fun _ _ => rfl, ?_⟩
    rfl
  refine LS.skip ?_
  repeat refine LS.seq ?_
  refine LS.region rfl ?_
  refine OS.pure rfl (fun _ => rfl) rfl ?_
  refine OS.call noGo rfl (fun _ => rfl) ((Join_ct (ws := ws) hv0 (by omega) (fun w hm => Nat.le_trans (hw w hm) (by decide))).mono ?_)
  rintro v' L1 ⟨rfl, rfl⟩
  have hgo : ∀ w ∈ ws, w.length ≤ 9000000000000000 := fun w hm => Nat.le_trans (hw w hm) (by decide)
  obtain ⟨s, e, hj, hj0, he⟩ : ∃ (s : List UInt8) (e : Int), joinV ws = .tuple #[str s, .int .i64 e] ∧ (e = 0 → joinW ws = some s) ∧ (e = 0 ∨ ieqB e 0 = false) := by
    cases hj : joinW ws with
    | some s => exact ⟨s, 0, by unfold joinV; rw [hj], fun _ => rfl, .inl rfl⟩
    | none => exact ⟨[], 40, by unfold joinV; rw [hj], fun h => (by cases h), .inr rfl⟩
  rw [hj]
  refine ⟨_, rfl, ?_⟩
  refine OS.pure rfl (fun _ => rfl) rfl ?_
  refine OS.pure rfl (fun _ => rfl) rfl ?_
  refine OS.pure rfl (fun _ => rfl) rfl ?_
  refine OS.pure rfl (fun _ => rfl) rfl ?_
  refine OS.pure rfl (fun _ => rfl) rfl ?_
  refine OS.nil ?_
  refine LS.seq ?_
  refine LS.mid [0, 1] (fun a L2 => Am.Sub L1 L2 ∧ a = [v, str line, .chan none, .chan none, .chan none, .chan none, .chan none, .chan none, .chan none, .chan none, .chan none, .chan none, .chan none, .chan none, .chan none, .chan none, .chan none, .chan none, .chan none, .chan none, .chan none, .chan none, .chan none, .chan none, .chan none, .chan none, .chan none, .chan none, .chan none, .chan none, .chan none, .chan none, .chan none, .chan none, .chan none, .chan none, .chan none, .chan none, .chan none, .chan none, .chan none, .chan none, .chan none, .chan none, .chan none, .chan none, .chan none, .chan none, .chan none, .chan none, .chan none, .chan none, .chan none, .chan none, .chan none, .chan none, .chan none, .chan none, .chan none, .chan none, .chan none, .chan none, .chan none, .chan none, .chan none, .chan none, .chan none, .chan none, .chan none, .chan none, .chan none, .chan none]) ?_ ?_
  · rcases he with rfl | he
    · have hjw := hj0 rfl
      obtain ⟨w1, w2⟩ := joined_words hjw
      repeat refine LS.seq ?_
      refine LS.region rfl ?_
      refine OS.pure rfl (fun _ => rfl) rfl ?_
      refine OS.pure rfl (fun _ => rfl) rfl ?_
      refine OS.nil ?_
      repeat refine LS.seq ?_
      refine LS.cond rfl (fun h => ?_) (fun h => ?_)
      · repeat refine LS.seq ?_
        refine LS.region rfl ?_
        refine OS.pure rfl (fun _ => rfl) rfl ?_
        refine OS.call noGo rfl (fun _ => rfl) ((Split_ct s (by have := (joinW_eq hjw).2; omega)).mono ?_)
        rintro v' L2 ⟨u1, rfl, g1⟩
        rw [w1] at g1
        rw [w2]
        refine ⟨_, rfl, ?_⟩
        refine OS.pure rfl (fun _ => rfl) rfl ?_
        refine OS.pure rfl (fun _ => rfl) rfl ?_
        refine OS.pure rfl (fun _ => rfl) rfl ?_
        refine OS.pure rfl (fun _ => rfl) rfl ?_
        refine OS.pure rfl (fun _ => rfl) rfl ?_
        refine OS.nil ?_
        repeat refine LS.seq ?_
        refine LS.region rfl ?_
        refine OS.pure rfl (fun _ => rfl) rfl ?_
        refine OS.pure rfl (fun _ => rfl) rfl ?_
        refine OS.pure rfl (fun _ => rfl) rfl ?_
        refine OS.pure rfl (fun _ => rfl) rfl ?_
        refine OS.pure rfl (fun _ => rfl) rfl ?_
        refine OS.call noGo rfl (fun _ => rfl) ((Same_ct (A := ws) (B := ws) (hv0.mono g1.mem) g1.sv (by omega)).mono ?_)
        rintro v' L3 ⟨rfl, rfl⟩
        rw [decide_eq_true (rfl : ws = ws)]
        refine ⟨_, rfl, ?_⟩
        refine OS.pure rfl (fun _ => rfl) rfl ?_
        refine OS.pure rfl (fun _ => rfl) rfl ?_
        refine OS.nil ?_
        repeat refine LS.seq ?_
        refine LS.cond rfl (fun h => ?_) (fun h => ?_)
        · cases h
        refine LS.skip ⟨GV.less g1, rfl⟩
      · cases h
    · repeat refine LS.seq ?_
      refine LS.region rfl ?_
      refine OS.pure rfl (fun _ => rfl) rfl ?_
      refine OS.pure rfl (e_is (fun _ => rfl) (congrArg Value.bool he)) rfl ?_
      refine OS.nil ?_
      repeat refine LS.seq ?_
      refine LS.cond rfl (fun h => ?_) (fun h => ?_)
      · cases h
      refine LS.skip ⟨Sub.self, rfl⟩
  rintro a L2 ⟨hsub, rfl⟩
  refine LS.sub hsub ?_
  repeat refine LS.seq ?_
  refine LS.region rfl ?_
  refine OS.pure rfl (fun _ => rfl) rfl ?_
  refine OS.call noGo rfl (fun _ => rfl) ((Split_ct line hs).mono ?_)
  rintro v' L3 ⟨u2, rfl, g2⟩
  refine ⟨_, rfl, ?_⟩
  refine OS.pure rfl (fun _ => rfl) rfl ?_
  refine OS.pure rfl (fun _ => rfl) rfl ?_
  refine OS.pure rfl (fun _ => rfl) rfl ?_
  refine OS.pure rfl (fun _ => rfl) rfl ?_
  refine OS.pure rfl (fun _ => rfl) rfl ?_
  refine OS.nil ?_
  rcases errOf_cases line with h0 | ⟨hne, h0⟩
  · have b0 : (!ieqB (errOf line) 0) = false := by rw [h0]; rfl
    repeat refine LS.seq ?_
    refine LS.region rfl ?_
    refine OS.pure rfl (fun _ => rfl) rfl ?_
    refine OS.pure rfl (e_is (fun _ => rfl) (congrArg Value.bool b0)) rfl ?_
    refine OS.nil ?_
    repeat refine LS.seq ?_
    refine LS.cond rfl (fun h => ?_) (fun h => ?_)
    · cases h
    refine LS.skip ?_
    have hw2 : ∀ w ∈ wordsOf line, w.length ≤ 9000000000000000 := fun w hm => Nat.le_trans (words_le line w hm) hs
    have hc2 := count_le line
    generalize wordsOf line = us at g2 hw2 hc2
    repeat refine LS.seq ?_
    refine LS.region rfl ?_
    refine OS.pure rfl (fun _ => rfl) rfl ?_
    refine OS.call noGo rfl (fun _ => rfl) ((Join_ct (ws := us) g2.sv (by omega) hw2).mono ?_)
    rintro v' L4 ⟨rfl, rfl⟩
    cases hj2 : joinW us with
    | some s2 =>
      have hjv : joinV us = .tuple #[str s2, .int .i64 0] := by unfold joinV; rw [hj2]
      obtain ⟨w1, w2⟩ := joined_words hj2
      rw [hjv]
      refine ⟨_, rfl, ?_⟩
      refine OS.pure rfl (fun _ => rfl) rfl ?_
      refine OS.pure rfl (fun _ => rfl) rfl ?_
      refine OS.pure rfl (fun _ => rfl) rfl ?_
      refine OS.pure rfl (fun _ => rfl) rfl ?_
      refine OS.pure rfl (fun _ => rfl) rfl ?_
      refine OS.nil ?_
      repeat refine LS.seq ?_
      refine LS.region rfl ?_
      refine OS.pure rfl (fun _ => rfl) rfl ?_
      refine OS.pure rfl (fun _ => rfl) rfl ?_
      refine OS.nil ?_
      repeat refine LS.seq ?_
      refine LS.cond rfl (fun h => ?_) (fun h => ?_)
      · cases h
      refine LS.skip ?_
      repeat refine LS.seq ?_
      refine LS.region rfl ?_
      refine OS.pure rfl (fun _ => rfl) rfl ?_
      refine OS.call noGo rfl (fun _ => rfl) ((Split_ct s2 (by have := (joinW_eq hj2).2; omega)).mono ?_)
      rintro v' L5 ⟨u3, rfl, g3⟩
      rw [w1] at g3
      rw [w2]
      refine ⟨_, rfl, ?_⟩
      refine OS.pure rfl (fun _ => rfl) rfl ?_
      refine OS.pure rfl (fun _ => rfl) rfl ?_
      refine OS.pure rfl (fun _ => rfl) rfl ?_
      refine OS.pure rfl (fun _ => rfl) rfl ?_
      refine OS.pure rfl (fun _ => rfl) rfl ?_
      refine OS.nil ?_
      repeat refine LS.seq ?_
      refine LS.region rfl ?_
      refine OS.pure rfl (fun _ => rfl) rfl ?_
      refine OS.pure rfl (fun _ => rfl) rfl ?_
      refine OS.pure rfl (fun _ => rfl) rfl ?_
      refine OS.pure rfl (fun _ => rfl) rfl ?_
      refine OS.pure rfl (fun _ => rfl) rfl ?_
      refine OS.call noGo rfl (fun _ => rfl) ((Same_ct (A := us) (B := us) (g2.sv.mono g3.mem) g3.sv (by omega)).mono ?_)
      rintro v' L6 ⟨rfl, rfl⟩
      rw [decide_eq_true (rfl : us = us)]
      refine ⟨_, rfl, ?_⟩
      refine OS.pure rfl (fun _ => rfl) rfl ?_
      refine OS.pure rfl (fun _ => rfl) rfl ?_
      refine OS.nil ?_
      refine LS.ret ⟨_, fun _ _ => rfl, ?_⟩
      rfl
    | none =>
      have hjv : joinV us = .tuple #[str [], .int .i64 40] := by unfold joinV; rw [hj2]
      rw [hjv]
      refine ⟨_, rfl, ?_⟩
      refine OS.pure rfl (fun _ => rfl) rfl ?_
      refine OS.pure rfl (fun _ => rfl) rfl ?_
      refine OS.pure rfl (fun _ => rfl) rfl ?_
      refine OS.pure rfl (fun _ => rfl) rfl ?_
      refine OS.pure rfl (fun _ => rfl) rfl ?_
      refine OS.nil ?_
      repeat refine LS.seq ?_
      refine LS.region rfl ?_
      refine OS.pure rfl (fun _ => rfl) rfl ?_
      refine OS.pure rfl (fun _ => rfl) rfl ?_
      refine OS.nil ?_
      repeat refine LS.seq ?_
      refine LS.cond rfl (fun h => ?_) (fun h => ?_)
      · repeat refine LS.seq ?_
        refine LS.region rfl ?_
        refine OS.pure rfl (fun _ => rfl) rfl ?_
        refine OS.pure rfl (fun _ => rfl) rfl ?_
        refine OS.pure rfl (fun _ => rfl) rfl ?_
        refine OS.nil ?_
        refine LS.ret ⟨_, fun _ _ => rfl, ?_⟩
        rfl
      · cases h
  · have b0 : (!ieqB (errOf line) 0) = true := by rw [h0]; rfl
    repeat refine LS.seq ?_
    refine LS.region rfl ?_
    refine OS.pure rfl (fun _ => rfl) rfl ?_
    refine OS.pure rfl (e_is (fun _ => rfl) (congrArg Value.bool b0)) rfl ?_
    refine OS.nil ?_
    repeat refine LS.seq ?_
    refine LS.cond rfl (fun h => ?_) (fun h => ?_)
    · repeat refine LS.seq ?_
      refine LS.region rfl ?_
      refine OS.pure rfl (fun _ => rfl) rfl ?_
      refine OS.nil ?_
      refine LS.ret ⟨_, fun _ _ => rfl, ?_⟩
      rfl
    · cases h
end Go.Proofs.YtdffhllecojgcaaDoor
