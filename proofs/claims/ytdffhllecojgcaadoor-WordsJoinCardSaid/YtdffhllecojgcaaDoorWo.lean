/- Layer 2: WordsSplit's law. -/
import Derived.Test.YtdffhllecojgcaaDoorWn
namespace Go.Proofs.YtdffhllecojgcaaDoor
open Go.Am
set_option linter.unusedVariables false
set_option maxRecDepth 20000

theorem splF_count : ∀ (f : Nat) (s : List UInt8) (ws : List (List UInt8)), splF f s = some ws → ws.length ≤ s.length
  | 0, _, _, h => by cases h
  | f + 1, [], ws, h => by simp [splF] at h; subst h; simp
  | f + 1, c :: t, ws, h => by
    rw [splF] at h
    split at h
    · split at h
      · cases h
      · simp at h; subst h; simp
    · split at h
      · cases h
      · rename_i h1 h2
        have hlt := next_lt h2
        cases hx : splF f (((c :: t).drop (wordK (c :: t)).2).dropWhile isBl) with
        | none => rw [hx] at h; cases h
        | some vs =>
          rw [hx] at h
          simp at h
          subst h
          have := splF_count f _ vs hx
          simp only [List.length_cons] at hlt ⊢
          omega
theorem wcount (s : List UInt8) : ((splitW s).getD []).length ≤ s.length := by
  cases h : splitW s with
  | none => simp
  | some ws => exact Nat.le_trans (splF_count _ _ _ h) (dw_le s)
theorem splitLaw_ct {L : RL} (s : List UInt8) (hs : s.length ≤ 9000000000000000) : CS Tryd.prog 3 [str s] L fun v _ => v = .bool true := by
  by_cases hl : s.length > 5000
  · have b1 : (!ileB (s.length : Int) 5000) = true := by rw [ileB_eq]; simp; omega
    refine CS.mk (fn := Tryd.f3) rfl rfl rfl rfl ?_
    repeat refine LS.seq ?_
    refine LS.region rfl ?_
    refine OS.pure rfl (fun _ => rfl) rfl ?_
    refine OS.nil ?_
    repeat refine LS.seq ?_
    refine LS.region rfl ?_
    refine OS.pure rfl (fun _ => rfl) rfl ?_
    refine OS.pure rfl (fun _ => rfl) rfl ?_
    refine OS.pure rfl (e_is (fun _ => rfl) (congrArg Value.bool b1)) rfl ?_
    refine OS.nil ?_
    repeat refine LS.seq ?_
    refine LS.cond rfl (fun h => ?_) (fun h => ?_)
    · repeat refine LS.seq ?_
      refine LS.region rfl ?_
      refine OS.call noGo rfl (fun _ => rfl) ((awake_ct).mono ?_)
      rintro v L' rfl
      refine ⟨_, rfl, ?_⟩
      refine OS.pure rfl (fun _ => rfl) rfl ?_
      refine OS.nil ?_
      refine LS.ret ⟨_, fun _ _ => rfl, ?_⟩
      rfl
    · cases h
  have b1 : (!ileB (s.length : Int) 5000) = false := by rw [ileB_eq]; simp; omega
  have be : (!ieqB (errOf s) (errOf s)) = false := by rw [ieqB_eq]; simp
  have hwl : (wordsOf s).length ≤ 9000000000000000 := by
    unfold wordsOf
    split
    · simp
    · rename_i h
      exact Nat.le_trans (wcount s) hs
  refine CS.mk (fn := Tryd.f3) rfl rfl rfl rfl ?_
  repeat refine LS.seq ?_
  refine LS.region rfl ?_
  refine OS.pure rfl (fun _ => rfl) rfl ?_
  refine OS.nil ?_
  repeat refine LS.seq ?_
  refine LS.region rfl ?_
  refine OS.pure rfl (fun _ => rfl) rfl ?_
  refine OS.pure rfl (fun _ => rfl) rfl ?_
  refine OS.pure rfl (e_is (fun _ => rfl) (congrArg Value.bool b1)) rfl ?_
  refine OS.nil ?_
  repeat refine LS.seq ?_
  refine LS.cond rfl (fun h => ?_) (fun h => ?_)
  · cases h
  refine LS.skip ?_
  repeat refine LS.seq ?_
  refine LS.region rfl ?_
  refine OS.pure rfl (fun _ => rfl) rfl ?_
  refine OS.call noGo rfl (fun _ => rfl) ((Split_ct s hs).mono ?_)
  rintro v L1 ⟨u1, rfl, g1⟩
  refine ⟨_, rfl, ?_⟩
  refine OS.pure rfl (fun _ => rfl) rfl ?_
  refine OS.pure rfl (fun _ => rfl) rfl ?_
  refine OS.pure rfl (fun _ => rfl) rfl ?_
  refine OS.pure rfl (fun _ => rfl) rfl ?_
  refine OS.pure rfl (fun _ => rfl) rfl ?_
  refine OS.nil ?_
  repeat refine LS.seq ?_
  refine LS.region rfl ?_
  refine OS.pure rfl (fun _ => rfl) rfl ?_
  refine OS.call noGo rfl (fun _ => rfl) ((refSplit_ct s hs).mono ?_)
  rintro v L2 hsp
  obtain ⟨u2, rfl, g2⟩ := hsp.sq
  refine ⟨_, rfl, ?_⟩
  refine OS.pure rfl (fun _ => rfl) rfl ?_
  refine OS.pure rfl (fun _ => rfl) rfl ?_
  refine OS.pure rfl (fun _ => rfl) rfl ?_
  refine OS.pure rfl (fun _ => rfl) rfl ?_
  refine OS.pure rfl (fun _ => rfl) rfl ?_
  refine OS.nil ?_
  have sv1 : SV 1 L2 u1 (wordsOf s).length (strs (wordsOf s)) := g1.sv.mono g2.mem
  repeat refine LS.seq ?_
  refine LS.region rfl ?_
  refine OS.pure rfl (fun _ => rfl) rfl ?_
  refine OS.pure rfl (fun _ => rfl) rfl ?_
  refine OS.pure rfl (e_is (fun _ => rfl) (congrArg Value.bool be)) rfl ?_
  refine OS.pure rfl (fun _ => rfl) rfl ?_
  refine OS.pure rfl (fun _ => rfl) rfl ?_
  refine OS.pure rfl (fun _ => rfl) rfl ?_
  refine OS.call noGo rfl (fun _ => rfl) ((Same_ct (A := wordsOf s) (B := wordsOf s) sv1 g2.sv hwl).mono ?_)
  rintro v L3 ⟨rfl, rfl⟩
  rw [decide_eq_true (rfl : wordsOf s = wordsOf s)]
  refine ⟨_, rfl, ?_⟩
  refine OS.pure rfl (fun _ => rfl) rfl ?_
  refine OS.pure rfl (fun _ => rfl) rfl ?_
  refine OS.nil ?_
  repeat refine LS.seq ?_
  refine LS.cond rfl (fun h => ?_) (fun h => ?_)
  · cases h
  refine LS.skip ?_
  repeat refine LS.seq ?_
  refine LS.region rfl ?_
  refine OS.pure rfl (fun _ => rfl) rfl ?_
  refine OS.nil ?_
  repeat refine LS.seq ?_
  refine LS.mid [0, 5] (fun a L' => SV 1 L' u2 (wordsOf s).length (strs (wordsOf s)) ∧ a = [str s, .chan none, .chan none, .chan none, .chan none, u2, .chan none, .chan none, .chan none, .chan none, .chan none, .chan none, .chan none, .chan none, .chan none, .chan none, .chan none, .chan none, .chan none, .chan none, .chan none, .chan none, .chan none, .chan none, .chan none, .chan none, .chan none, .chan none, .chan none, .chan none, .chan none, .chan none, .chan none, .chan none, .chan none, .chan none, .chan none, .chan none, .chan none, .chan none, .chan none, .chan none, .chan none, .chan none, .chan none, .chan none, .chan none, .chan none, .chan none, .chan none, .chan none, .chan none, .chan none]) ?_ ?_
  · repeat refine LS.seq ?_
    refine LS.block ?_
    rcases g1 with ⟨rfl, h0, h1, rfl⟩ | ⟨r1, rfl, h1, rfl⟩
    · refine LS.loopJ [0, 3, 5, 7] (fun q a L' => q = 0 ∧ L' = L3 ∧ a = [str s, .chan none, .chan none, .slice none 0 0, .chan none, u2, .chan none, .int .i64 0, .chan none, .chan none, .chan none, .chan none, .chan none, .chan none, .chan none, .chan none, .chan none, .chan none, .chan none, .chan none, .chan none, .chan none, .chan none, .chan none, .chan none, .chan none, .chan none, .chan none, .chan none, .chan none, .chan none, .chan none, .chan none, .chan none, .chan none, .chan none, .chan none, .chan none, .chan none, .chan none, .chan none, .chan none, .chan none, .chan none, .chan none, .chan none, .chan none, .chan none, .chan none, .chan none, .chan none, .chan none, .chan none]) (n := 0) rfl ⟨rfl, rfl, rfl⟩ ?_
      rintro q a L' ⟨rfl, rfl, rfl⟩
      repeat refine LS.seq ?_
      refine LS.region rfl ?_
      refine OS.pure rfl (fun _ => rfl) rfl ?_
      refine OS.pure rfl (fun _ => rfl) rfl ?_
      refine OS.pure rfl (fun _ => rfl) rfl ?_
      refine OS.pure rfl (fun _ => rfl) rfl ?_
      refine OS.nil ?_
      repeat refine LS.seq ?_
      refine LS.cond rfl (fun h => ?_) (fun h => ?_)
      · cases h
      · refine LS.exit ?_
        exact ⟨g2.sv, rfl⟩
    · rcases g2 with ⟨rfl, h0, h2, rfl⟩ | ⟨r2, rfl, h2, rfl⟩
      · have hz : (wordsOf s).length = 0 := h0
        refine LS.loopJ [0, 3, 5, 7] (fun q a L' => q = 0 ∧ L' = (r1, .cells 9 (strs (wordsOf s))) :: L ∧ a = [str s, .chan none, .chan none, .slice (some ⟨r1, 0, none⟩) (wordsOf s).length openCap, .chan none, .slice none 0 0, .chan none, .int .i64 0, .chan none, .chan none, .chan none, .chan none, .chan none, .chan none, .chan none, .chan none, .chan none, .chan none, .chan none, .chan none, .chan none, .chan none, .chan none, .chan none, .chan none, .chan none, .chan none, .chan none, .chan none, .chan none, .chan none, .chan none, .chan none, .chan none, .chan none, .chan none, .chan none, .chan none, .chan none, .chan none, .chan none, .chan none, .chan none, .chan none, .chan none, .chan none, .chan none, .chan none, .chan none, .chan none, .chan none, .chan none, .chan none]) (n := 0) rfl ⟨rfl, rfl, rfl⟩ ?_
        rintro q a L' ⟨rfl, rfl, rfl⟩
        repeat refine LS.seq ?_
        refine LS.region rfl ?_
        refine OS.pure rfl (fun _ => rfl) rfl ?_
        refine OS.pure rfl (fun _ => rfl) rfl ?_
        refine OS.pure rfl (fun _ => rfl) rfl ?_
        refine OS.pure rfl (fun _ => rfl) rfl ?_
        refine OS.nil ?_
        repeat refine LS.seq ?_
        refine LS.cond rfl (fun h => ?_) (fun h => ?_)
        · have h := lt_of h
          omega
        · refine LS.exit ?_
          exact ⟨.inl ⟨rfl, h0, h2⟩, rfl⟩
      · refine LS.loopJ [0, 3, 5, 7] (fun q a L' => ∃ (j : Nat) (cs : List Value), q = (wordsOf s).length - j ∧ cs.length = (wordsOf s).length ∧ L' = (r2, .cells 9 (strs (wordsOf s))) :: (r1, .cells 9 cs) :: L ∧ a = [str s, .chan none, .chan none, .slice (some ⟨r1, 0, none⟩) (wordsOf s).length openCap, .chan none, .slice (some ⟨r2, 0, none⟩) (wordsOf s).length openCap, .chan none, .int .i64 (j : Nat), .chan none, .chan none, .chan none, .chan none, .chan none, .chan none, .chan none, .chan none, .chan none, .chan none, .chan none, .chan none, .chan none, .chan none, .chan none, .chan none, .chan none, .chan none, .chan none, .chan none, .chan none, .chan none, .chan none, .chan none, .chan none, .chan none, .chan none, .chan none, .chan none, .chan none, .chan none, .chan none, .chan none, .chan none, .chan none, .chan none, .chan none, .chan none, .chan none, .chan none, .chan none, .chan none, .chan none, .chan none, .chan none]) (n := (wordsOf s).length) rfl ⟨0, strs (wordsOf s), rfl, strs_len _, rfl, rfl⟩ ?_
        rintro q a L' ⟨j, cs, rfl, hcs, rfl, rfl⟩
        repeat refine LS.seq ?_
        refine LS.region rfl ?_
        refine OS.pure rfl (fun _ => rfl) rfl ?_
        refine OS.pure rfl (fun _ => rfl) rfl ?_
        refine OS.pure rfl (fun _ => rfl) rfl ?_
        refine OS.pure rfl (fun _ => rfl) rfl ?_
        refine OS.nil ?_
        repeat refine LS.seq ?_
        refine LS.cond rfl (fun h => ?_) (fun h => ?_)
        · have h : (j : Int) < (wordsOf s).length := lt_of h
          have hj : j < (wordsOf s).length := by omega
          refine LS.skip ?_
          repeat refine LS.seq ?_
          refine LS.block ?_
          repeat refine LS.seq ?_
          refine LS.region rfl ?_
          refine OS.pure rfl (fun _ => rfl) rfl ?_
          refine OS.pure rfl (fun _ => rfl) rfl ?_
          refine OS.pure rfl (e_index (j := j) (sz := 1) rfl rfl rfl rfl rfl hj) rfl ?_
          refine OS.write rfl (e_store 1 (n := 1) (cs' := cs.set (0 + j * 1) (str [115, 112, 111, 105, 108, 116])) rfl rfl rfl rfl rfl rfl (lay_one (by omega)) rfl) rfl ?_
          refine OS.nil ?_
          repeat refine LS.seq ?_
          refine LS.region rfl ?_
          refine OS.pure rfl (fun _ => rfl) rfl ?_
          refine OS.pure rfl (e_add (m := (j : Int)) (n := 1) rfl rfl rfl (in_i64 (by omega) (by omega))) rfl ?_
          rw [show ((j : Nat) : Int) + 1 = ((j + 1 : Nat) : Int) by omega]
          refine OS.pure rfl (fun _ => rfl) rfl ?_
          refine OS.nil ?_
          exact ⟨(wordsOf s).length - (j + 1), by omega, j + 1, _, rfl, by simp [hcs], rfl, rfl⟩
        · refine LS.exit ?_
          exact ⟨SV.row (e := 9) (r := r2) (List.mem_cons_self ..) h2, rfl⟩
  · rintro a L4 ⟨sv2, rfl⟩
    repeat refine LS.seq ?_
    refine LS.region rfl ?_
    refine OS.pure rfl (fun _ => rfl) rfl ?_
    refine OS.call noGo rfl (fun _ => rfl) ((Split_ct s hs).mono ?_)
    rintro v L5 ⟨u3, rfl, g3⟩
    refine ⟨_, rfl, ?_⟩
    refine OS.pure rfl (fun _ => rfl) rfl ?_
    refine OS.pure rfl (fun _ => rfl) rfl ?_
    refine OS.pure rfl (fun _ => rfl) rfl ?_
    refine OS.pure rfl (fun _ => rfl) rfl ?_
    refine OS.pure rfl (fun _ => rfl) rfl ?_
    refine OS.nil ?_
    repeat refine LS.seq ?_
    refine LS.region rfl ?_
    refine OS.pure rfl (fun _ => rfl) rfl ?_
    refine OS.pure rfl (fun _ => rfl) rfl ?_
    refine OS.call noGo rfl (fun _ => rfl) ((Same_ct (A := wordsOf s) (B := wordsOf s) g3.sv (sv2.mono g3.mem) hwl).mono ?_)
    rintro v L6 ⟨rfl, rfl⟩
    rw [decide_eq_true (rfl : wordsOf s = wordsOf s)]
    refine ⟨_, rfl, ?_⟩
    refine OS.pure rfl (fun _ => rfl) rfl ?_
    refine OS.call noGo rfl (fun _ => rfl) ((awake_ct).mono ?_)
    rintro v L7 rfl
    refine ⟨_, rfl, ?_⟩
    refine OS.pure rfl (fun _ => rfl) rfl ?_
    refine OS.pure rfl (fun _ => rfl) rfl ?_
    refine OS.nil ?_
    refine LS.ret ⟨_, fun _ _ => rfl, ?_⟩
    rfl
end Go.Proofs.YtdffhllecojgcaaDoor
