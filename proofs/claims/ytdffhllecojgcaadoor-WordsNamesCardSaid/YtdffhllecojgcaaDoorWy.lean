/- Layer 2: WordsBlanks's law. -/
import Derived.Test.YtdffhllecojgcaaDoorWx
namespace Go.Proofs.YtdffhllecojgcaaDoor
open Go.Am
set_option linter.unusedVariables false
set_option maxRecDepth 20000

theorem hash_split {r : List UInt8} (h : 10 ∉ r) : splitW (35 :: r) = some [] := by
  have h1 : splitW (35 :: r) = spl (35 :: r) := rfl
  have h2 : (35 :: r).contains 10 = false := by
    rw [← Bool.not_eq_true, List.contains_iff_mem, List.mem_cons]
    rintro (h' | h')
    · exact absurd h' (by decide)
    · exact h h'
  rw [h1, spl_hash, h2]; rfl
theorem words_of {s : List UInt8} {ws : List (List UInt8)} (hl : s.length ≤ 400) (h : splitW s = some ws) : wordsOf s = ws ∧ errOf s = 0 := by
  unfold wordsOf errOf
  rw [if_neg (by omega), if_neg (by omega), h]
  exact ⟨rfl, if_neg (by simp)⟩
theorem blanks1 {ws : List (List UInt8)} {s r : List UInt8} (h : joinW ws = some s) (hr : 10 ∉ r) (hl : s.length + r.length ≤ 300) :
    wordsOf ([32, 9] ++ s ++ [9, 32, 35] ++ r) = ws ∧ errOf ([32, 9] ++ s ++ [9, 32, 35] ++ r) = 0 := by
  obtain ⟨rfl, _⟩ := joinW_eq h
  refine words_of (by simp; omega) ?_
  have e : [32, 9] ++ lineW ws ++ [9, 32, 35] ++ r = 32 :: 9 :: (lineW ws ++ (9 :: 32 :: 35 :: r)) := by simp
  rw [e, splitW_blank rfl, splitW_blank rfl, line_split (.inr ⟨9, _, rfl, rfl⟩), splitW_blank rfl, splitW_blank rfl, hash_split hr]
  simp
theorem blanks2 {ws : List (List UInt8)} {s r : List UInt8} (h : joinW ws = some s) (hr : 10 ∉ r) (hl : s.length + r.length ≤ 300) :
    linesV ([10, 9] ++ s ++ [32, 10, 35] ++ r ++ [10]) = (if ws = [] then [] else [(2, ws)], 0, 0) := by
  obtain ⟨rfl, _⟩ := joinW_eq h
  have hn := lineW_no10 ws
  have e : [10, 9] ++ lineW ws ++ [32, 10, 35] ++ r ++ [10] = [] ++ 10 :: ((9 :: (lineW ws ++ [32])) ++ 10 :: ((35 :: r) ++ 10 :: [])) := by simp
  have n1 : 10 ∉ 9 :: (lineW ws ++ [32]) := by
    simp only [List.mem_cons, List.mem_append, List.not_mem_nil, or_false, not_or]
    exact ⟨by decide, hn, by decide⟩
  have n2 : 10 ∉ 35 :: r := by
    simp only [List.mem_cons, not_or]
    exact ⟨by decide, hr⟩
  have s2 : wordsOf (9 :: (lineW ws ++ [32])) = ws ∧ errOf (9 :: (lineW ws ++ [32])) = 0 := by
    refine words_of (by simp; omega) ?_
    rw [splitW_blank rfl, line_split (.inr ⟨32, _, rfl, rfl⟩), splitW_blank rfl, splitW_nil]
    simp
  have s3 := words_of (s := 35 :: r) (by simp; omega) (hash_split hr)
  have s1 : wordsOf [] = [] ∧ errOf [] = 0 := words_of (by simp) splitW_nil
  unfold linesV
  rw [e, segs_at (by simp), segs_at n1, segs_at n2]
  simp only [segs, LO, s1, s2, s3, if_true, List.nil_append]
theorem blanksLaw_ct {L : RL} {v : Value} {n : Nat} {ws : List (List UInt8)} (r : List UInt8) (hr : RO 1 L v n (strs ws)) (hn : n ≤ 140737488351232) (hw : ∀ w ∈ ws, w.length ≤ 140737488351232) (hs : r.length ≤ 9000000000000000) :
    CS Tryd.prog 8 [v, str r] L fun v _ => v = .bool true := by
  have hv0 := hr.sv
  have hlen : ws.length = n := by have := hv0.len; rw [strs_len] at this; omega
  subst hlen
  refine CS.mk (fn := Tryd.f8) rfl rfl rfl rfl ?_
  repeat refine LS.seq ?_
  refine LS.region rfl ?_
  refine OS.pure rfl (fun _ => rfl) rfl ?_
  refine OS.nil ?_
  repeat refine LS.seq ?_
  refine LS.mid [0, 1, 18] (fun a L' => ∃ b, L' = L ∧ a = [v, str r, .chan none, .chan none, .chan none, .chan none, .chan none, .chan none, .chan none, .chan none, .chan none, .chan none, .chan none, .chan none, .chan none, .chan none, .chan none, .chan none, .bool b, .chan none, .chan none, .chan none, .chan none, .chan none, .chan none, .chan none, .chan none, .chan none, .chan none, .chan none, .chan none, .chan none, .chan none, .chan none, .chan none, .chan none, .chan none, .chan none, .chan none, .chan none, .chan none, .chan none, .chan none, .chan none, .chan none, .chan none, .chan none, .chan none, .chan none, .chan none, .chan none, .chan none, .chan none, .chan none, .chan none, .chan none, .chan none, .chan none, .chan none, .chan none, .chan none, .chan none, .chan none, .chan none, .chan none, .chan none, .chan none, .chan none, .chan none, .chan none, .chan none, .chan none, .chan none, .chan none, .chan none, .chan none, .chan none, .chan none, .chan none, .chan none, .chan none, .chan none, .chan none, .chan none, .chan none, .chan none, .chan none, .chan none, .chan none, .chan none, .chan none, .chan none, .chan none, .chan none, .chan none, .chan none, .chan none, .chan none, .chan none, .chan none, .chan none, .chan none, .chan none, .chan none, .chan none, .chan none, .chan none, .chan none, .chan none, .chan none, .chan none, .chan none, .chan none, .chan none, .chan none]) ?_ ?_
  · refine LS.region rfl ?_
    refine OS.pure rfl (fun _ => rfl) rfl ?_
    refine OS.call noGo rfl (fun _ => rfl) ((long_ct hv0 (by omega) hw).mono ?_)
    rintro v' L' ⟨b, rfl, hb, rfl⟩
    cases b with
    | true =>
      refine ⟨_, rfl, ?_⟩
      refine OS.pure rfl (fun _ => rfl) rfl ?_
      refine OS.skip rfl rfl ?_
      refine OS.skip rfl rfl ?_
      refine OS.pure rfl (fun _ => rfl) rfl ?_
      refine OS.nil ?_
      exact ⟨_, rfl, rfl⟩
    | false =>
      refine ⟨_, rfl, ?_⟩
      refine OS.pure rfl (fun _ => rfl) rfl ?_
      refine OS.call noGo rfl (fun _ => rfl) ((awake_sub).mono ?_)
      rintro v' L3 ⟨rfl, rfl⟩
      refine ⟨_, rfl, ?_⟩
      refine OS.pure rfl (fun _ => rfl) rfl ?_
      refine OS.pure rfl (fun _ => rfl) rfl ?_
      refine OS.nil ?_
      exact ⟨_, rfl, rfl⟩
  rintro a L' ⟨b, rfl, rfl⟩
  repeat refine LS.seq ?_
  refine LS.cond rfl (fun h => ?_) (fun h => ?_)
  · repeat refine LS.seq ?_
    refine LS.region rfl ?_
    refine OS.call noGo rfl (fun _ => rfl) ((awake_ct).mono ?_)
    rintro v' L2 rfl
    refine ⟨_, rfl, ?_⟩
    refine OS.pure rfl (fun _ => rfl) rfl ?_
    refine OS.nil ?_
    refine LS.ret ⟨_, fun _ _ => rfl, ?_⟩
    rfl
  refine LS.skip ?_
  repeat refine LS.seq ?_
  refine LS.region rfl ?_
  refine OS.pure rfl (fun _ => rfl) rfl ?_
  refine OS.nil ?_
  repeat refine LS.seq ?_
  refine LS.mid [0, 1] (fun a L2 => 10 ∉ r ∧ L2 = L' ∧ a = [v, str r, .chan none, .chan none, .chan none, .chan none, .chan none, .chan none, .chan none, .chan none, .chan none, .chan none, .chan none, .chan none, .chan none, .chan none, .chan none, .chan none, .chan none, .chan none, .chan none, .chan none, .chan none, .chan none, .chan none, .chan none, .chan none, .chan none, .chan none, .chan none, .chan none, .chan none, .chan none, .chan none, .chan none, .chan none, .chan none, .chan none, .chan none, .chan none, .chan none, .chan none, .chan none, .chan none, .chan none, .chan none, .chan none, .chan none, .chan none, .chan none, .chan none, .chan none, .chan none, .chan none, .chan none, .chan none, .chan none, .chan none, .chan none, .chan none, .chan none, .chan none, .chan none, .chan none, .chan none, .chan none, .chan none, .chan none, .chan none, .chan none, .chan none, .chan none, .chan none, .chan none, .chan none, .chan none, .chan none, .chan none, .chan none, .chan none, .chan none, .chan none, .chan none, .chan none, .chan none, .chan none, .chan none, .chan none, .chan none, .chan none, .chan none, .chan none, .chan none, .chan none, .chan none, .chan none, .chan none, .chan none, .chan none, .chan none, .chan none, .chan none, .chan none, .chan none, .chan none, .chan none, .chan none, .chan none, .chan none, .chan none, .chan none, .chan none, .chan none, .chan none, .chan none]) ?_ ?_
  · repeat refine LS.seq ?_
    refine LS.block ?_
    refine LS.loopJ [0, 1, 5] (fun q a L2 => ∃ j : Nat, q = r.length - j ∧ j ≤ r.length ∧ 10 ∉ r.take j ∧ L2 = L' ∧ a = [v, str r, .chan none, .chan none, .chan none, .int .i64 (j : Nat), .chan none, .chan none, .chan none, .chan none, .chan none, .chan none, .chan none, .chan none, .chan none, .chan none, .chan none, .chan none, .chan none, .chan none, .chan none, .chan none, .chan none, .chan none, .chan none, .chan none, .chan none, .chan none, .chan none, .chan none, .chan none, .chan none, .chan none, .chan none, .chan none, .chan none, .chan none, .chan none, .chan none, .chan none, .chan none, .chan none, .chan none, .chan none, .chan none, .chan none, .chan none, .chan none, .chan none, .chan none, .chan none, .chan none, .chan none, .chan none, .chan none, .chan none, .chan none, .chan none, .chan none, .chan none, .chan none, .chan none, .chan none, .chan none, .chan none, .chan none, .chan none, .chan none, .chan none, .chan none, .chan none, .chan none, .chan none, .chan none, .chan none, .chan none, .chan none, .chan none, .chan none, .chan none, .chan none, .chan none, .chan none, .chan none, .chan none, .chan none, .chan none, .chan none, .chan none, .chan none, .chan none, .chan none, .chan none, .chan none, .chan none, .chan none, .chan none, .chan none, .chan none, .chan none, .chan none, .chan none, .chan none, .chan none, .chan none, .chan none, .chan none, .chan none, .chan none, .chan none, .chan none, .chan none, .chan none, .chan none, .chan none]) (n := r.length) rfl ⟨0, rfl, by omega, by simp, rfl, rfl⟩ ?_
    rintro q a L2 ⟨j, rfl, hj, hno, rfl, rfl⟩
    repeat refine LS.seq ?_
    refine LS.region rfl ?_
    refine OS.pure rfl (fun _ => rfl) rfl ?_
    refine OS.pure rfl (fun _ => rfl) rfl ?_
    refine OS.pure rfl (fun _ => rfl) rfl ?_
    refine OS.pure rfl (fun _ => rfl) rfl ?_
    refine OS.nil ?_
    repeat refine LS.seq ?_
    refine LS.cond rfl (fun hc => ?_) (fun hc => ?_)
    · have hc : (j : Int) < r.length := lt_of hc
      have hjl : j < r.length := by omega
      have hg := List.getElem?_eq_getElem hjl
      generalize r[j] = c at hg
      refine LS.skip ?_
      repeat refine LS.seq ?_
      refine LS.block ?_
      repeat refine LS.seq ?_
      refine LS.region rfl ?_
      refine OS.pure rfl (fun _ => rfl) rfl ?_
      refine OS.pure rfl (fun _ => rfl) rfl ?_
      refine OS.pure rfl (e_byte (s := r) (j := j) rfl rfl rfl rfl hg) rfl ?_
      refine OS.pure rfl (fun _ => rfl) rfl ?_
      refine OS.nil ?_
      repeat refine LS.seq ?_
      refine LS.cond rfl (fun h10 => ?_) (fun h10 => ?_)
      · repeat refine LS.seq ?_
        refine LS.region rfl ?_
        refine OS.pure rfl (fun _ => rfl) rfl ?_
        refine OS.nil ?_
        refine LS.ret ⟨_, fun _ _ => rfl, ?_⟩
        rfl
      have h10 := not_u8 10 h10 rfl
      refine LS.skip ?_
      repeat refine LS.seq ?_
      refine LS.region rfl ?_
      refine OS.pure rfl (fun _ => rfl) rfl ?_
      refine OS.pure rfl (e_add (m := (j : Int)) (n := 1) rfl rfl rfl (in_i64 (by omega) (by omega))) rfl ?_
      rw [show ((j : Nat) : Int) + 1 = ((j + 1 : Nat) : Int) by omega]
      refine OS.pure rfl (fun _ => rfl) rfl ?_
      refine OS.nil ?_
      refine ⟨r.length - (j + 1), by omega, j + 1, rfl, by omega, ?_, rfl, rfl⟩
      rw [List.take_add_one, hg]
      simp only [Option.toList_some, List.mem_append, List.mem_singleton, not_or]
      exact ⟨hno, fun h => h10 h.symm⟩
    · have hc : (r.length : Int) ≤ j := nlt_of hc
      rw [List.take_of_length_le (by omega)] at hno
      refine LS.exit ?_
      exact ⟨hno, rfl, rfl⟩
  rintro a L2 ⟨hno, rfl, rfl⟩
  repeat refine LS.seq ?_
  refine LS.region rfl ?_
  refine OS.pure rfl (fun _ => rfl) rfl ?_
  refine OS.call noGo rfl (fun _ => rfl) ((Join_ct (ws := ws) hv0 (by omega) (fun w hm => Nat.le_trans (hw w hm) (by decide))).mono ?_)
  rintro v' L1 ⟨rfl, rfl⟩
  cases hj : joinW ws with
  | none =>
    have hjv : joinV ws = .tuple #[str [], .int .i64 40] := by unfold joinV; rw [hj]
    rw [hjv]
    refine ⟨_, rfl, ?_⟩
    refine OS.pure rfl (fun _ => rfl) rfl ?_
    refine OS.pure rfl (fun _ => rfl) rfl ?_
    refine OS.pure rfl (fun _ => rfl) rfl ?_
    refine OS.pure rfl (fun _ => rfl) rfl ?_
    refine OS.pure rfl (fun _ => rfl) rfl ?_
    refine OS.nil ?_
    repeat refine LS.seq ?_
    refine LS.region rfl ?_
    refine OS.pure rfl (fun _ => rfl) rfl ?_
    refine OS.pure rfl (fun _ => rfl) rfl ?_
    refine OS.pure rfl (fun _ => rfl) rfl ?_
    refine OS.skip rfl rfl ?_
    refine OS.skip rfl rfl ?_
    refine OS.skip rfl rfl ?_
    refine OS.skip rfl rfl ?_
    refine OS.skip rfl rfl ?_
    refine OS.skip rfl rfl ?_
    refine OS.pure rfl (fun _ => rfl) rfl ?_
    refine OS.nil ?_
    repeat refine LS.seq ?_
    refine LS.cond rfl (fun h => ?_) (fun h => ?_)
    · repeat refine LS.seq ?_
      refine LS.region rfl ?_
      refine OS.pure rfl (fun _ => rfl) rfl ?_
      refine OS.nil ?_
      refine LS.ret ⟨_, fun _ _ => rfl, ?_⟩
      rfl
    · cases h
  | some s =>
    have hjv : joinV ws = .tuple #[str s, .int .i64 0] := by unfold joinV; rw [hj]
    have hsl := (joinW_eq hj).2
    rw [hjv]
    refine ⟨_, rfl, ?_⟩
    refine OS.pure rfl (fun _ => rfl) rfl ?_
    refine OS.pure rfl (fun _ => rfl) rfl ?_
    refine OS.pure rfl (fun _ => rfl) rfl ?_
    refine OS.pure rfl (fun _ => rfl) rfl ?_
    refine OS.pure rfl (fun _ => rfl) rfl ?_
    refine OS.nil ?_
    by_cases hbig : s.length + r.length > 300
    · have b1 : (!ileB ((s.length + r.length : Nat) : Int) 300) = true := by rw [ileB_eq]; simp; omega
      repeat refine LS.seq ?_
      refine LS.region rfl ?_
      refine OS.pure rfl (fun _ => rfl) rfl ?_
      refine OS.pure rfl (fun _ => rfl) rfl ?_
      refine OS.pure rfl (fun _ => rfl) rfl ?_
      refine OS.pure rfl (fun _ => rfl) rfl ?_
      refine OS.pure rfl (fun _ => rfl) rfl ?_
      refine OS.pure rfl (fun _ => rfl) rfl ?_
      refine OS.pure rfl (fun _ => rfl) rfl ?_
      refine OS.pure rfl (e_add (m := (s.length : Nat)) (n := (r.length : Nat)) rfl rfl rfl (in_i64 (by omega) (by omega))) rfl ?_
      rw [show ((s.length : Nat) : Int) + (r.length : Nat) = ((s.length + r.length : Nat) : Int) by omega]
      refine OS.pure rfl (e_is (fun _ => rfl) (congrArg Value.bool b1)) rfl ?_
      refine OS.pure rfl (fun _ => rfl) rfl ?_
      refine OS.nil ?_
      repeat refine LS.seq ?_
      refine LS.cond rfl (fun h => ?_) (fun h => ?_)
      · repeat refine LS.seq ?_
        refine LS.region rfl ?_
        refine OS.pure rfl (fun _ => rfl) rfl ?_
        refine OS.nil ?_
        refine LS.ret ⟨_, fun _ _ => rfl, ?_⟩
        rfl
      · cases h
    have b1 : (!ileB ((s.length + r.length : Nat) : Int) 300) = false := by rw [ileB_eq]; simp; omega
    obtain ⟨k1, k2⟩ := blanks1 hj hno (by omega)
    have k3 := blanks2 hj hno (by omega)
    repeat refine LS.seq ?_
    refine LS.region rfl ?_
    refine OS.pure rfl (fun _ => rfl) rfl ?_
    refine OS.pure rfl (fun _ => rfl) rfl ?_
    refine OS.pure rfl (fun _ => rfl) rfl ?_
    refine OS.pure rfl (fun _ => rfl) rfl ?_
    refine OS.pure rfl (fun _ => rfl) rfl ?_
    refine OS.pure rfl (fun _ => rfl) rfl ?_
    refine OS.pure rfl (fun _ => rfl) rfl ?_
    refine OS.pure rfl (e_add (m := (s.length : Nat)) (n := (r.length : Nat)) rfl rfl rfl (in_i64 (by omega) (by omega))) rfl ?_
    rw [show ((s.length : Nat) : Int) + (r.length : Nat) = ((s.length + r.length : Nat) : Int) by omega]
    refine OS.pure rfl (e_is (fun _ => rfl) (congrArg Value.bool b1)) rfl ?_
    refine OS.pure rfl (fun _ => rfl) rfl ?_
    refine OS.nil ?_
    repeat refine LS.seq ?_
    refine LS.cond rfl (fun h => ?_) (fun h => ?_)
    · cases h
    refine LS.skip ?_
    repeat refine LS.seq ?_
    refine LS.region rfl ?_
    refine OS.pure rfl (fun _ => rfl) rfl ?_
    refine OS.pure rfl (e_cat (xs := [32, 9]) (ys := s) rfl rfl rfl (by simp; omega)) rfl ?_
    refine OS.pure rfl (e_cat (xs := [32, 9] ++ s) (ys := [9, 32, 35]) rfl rfl rfl (by simp; omega)) rfl ?_
    refine OS.pure rfl (fun _ => rfl) rfl ?_
    refine OS.pure rfl (e_cat (xs := [32, 9] ++ s ++ [9, 32, 35]) (ys := r) rfl rfl rfl (by simp; omega)) rfl ?_
    refine OS.call noGo rfl (fun _ => rfl) ((Split_ct ([32, 9] ++ s ++ [9, 32, 35] ++ r) (by simp; omega)).mono ?_)
    rintro v' L3 ⟨u1, rfl, g1⟩
    rw [k1] at g1
    rw [k2]
    refine ⟨_, rfl, ?_⟩
    refine OS.pure rfl (fun _ => rfl) rfl ?_
    refine OS.pure rfl (fun _ => rfl) rfl ?_
    refine OS.pure rfl (fun _ => rfl) rfl ?_
    refine OS.pure rfl (fun _ => rfl) rfl ?_
    refine OS.pure rfl (fun _ => rfl) rfl ?_
    refine OS.nil ?_
    repeat refine LS.seq ?_
    refine LS.region rfl ?_
    refine OS.pure rfl (fun _ => rfl) rfl ?_
    refine OS.pure rfl (e_cat (xs := [10, 9]) (ys := s) rfl rfl rfl (by simp; omega)) rfl ?_
    refine OS.pure rfl (e_cat (xs := [10, 9] ++ s) (ys := [32, 10, 35]) rfl rfl rfl (by simp; omega)) rfl ?_
    refine OS.pure rfl (fun _ => rfl) rfl ?_
    refine OS.pure rfl (e_cat (xs := [10, 9] ++ s ++ [32, 10, 35]) (ys := r) rfl rfl rfl (by simp; omega)) rfl ?_
    refine OS.pure rfl (e_cat (xs := [10, 9] ++ s ++ [32, 10, 35] ++ r) (ys := [10]) rfl rfl rfl (by simp; omega)) rfl ?_
    refine OS.call noGo rfl (fun _ => rfl) ((Lines_ct ([10, 9] ++ s ++ [32, 10, 35] ++ r ++ [10]) (by simp; omega)).mono ?_)
    rintro v' L4 ⟨lv, cs, rfl, sl, ln, hm⟩
    rw [k3] at sl ln
    rw [k3]
    refine ⟨_, rfl, ?_⟩
    refine OS.pure rfl (fun _ => rfl) rfl ?_
    refine OS.pure rfl (fun _ => rfl) rfl ?_
    refine OS.pure rfl (fun _ => rfl) rfl ?_
    refine OS.pure rfl (fun _ => rfl) rfl ?_
    refine OS.pure rfl (fun _ => rfl) rfl ?_
    refine OS.pure rfl (fun _ => rfl) rfl ?_
    refine OS.pure rfl (fun _ => rfl) rfl ?_
    refine OS.nil ?_
    have hv1 : SV 1 L4 v ws.length (strs ws) := hv0.mono fun p hp => hm p (g1.mem p hp)
    have sx : SV 1 L4 u1 ws.length (strs ws) := g1.sv.mono hm
    by_cases h0 : ws = []
    · subst h0
      repeat refine LS.seq ?_
      refine LS.region rfl ?_
      refine OS.pure rfl (fun _ => rfl) rfl ?_
      refine OS.pure rfl (e_len hv1 rfl rfl rfl rfl rfl) rfl ?_
      refine OS.pure rfl (fun _ => rfl) rfl ?_
      refine OS.nil ?_
      repeat refine LS.seq ?_
      refine LS.cond rfl (fun h => ?_) (fun h => ?_)
      · repeat refine LS.seq ?_
        refine LS.region rfl ?_
        refine OS.pure rfl (fun _ => rfl) rfl ?_
        refine OS.pure rfl (fun _ => rfl) rfl ?_
        refine OS.pure rfl (fun _ => rfl) rfl ?_
        refine OS.pure rfl (fun _ => rfl) rfl ?_
        refine OS.pure rfl (e_len sx rfl rfl rfl rfl rfl) rfl ?_
        refine OS.pure rfl (fun _ => rfl) rfl ?_
        refine OS.pure rfl (fun _ => rfl) rfl ?_
        refine OS.pure rfl (fun _ => rfl) rfl ?_
        refine OS.pure rfl (fun _ => rfl) rfl ?_
        refine OS.pure rfl (fun _ => rfl) rfl ?_
        refine OS.pure rfl (fun _ => rfl) rfl ?_
        refine OS.pure rfl (fun _ => rfl) rfl ?_
        refine OS.pure rfl (fun _ => rfl) rfl ?_
        refine OS.pure rfl (e_len sl rfl rfl rfl rfl rfl) rfl ?_
        refine OS.pure rfl (fun _ => rfl) rfl ?_
        refine OS.pure rfl (fun _ => rfl) rfl ?_
        refine OS.pure rfl (fun _ => rfl) rfl ?_
        refine OS.nil ?_
        refine LS.ret ⟨_, fun _ _ => rfl, ?_⟩
        rfl
      · cases h
    · rw [if_neg h0] at sl ln
      obtain ⟨u2, y1, y2, y3⟩ := ln.at (j := 0) (p := (2, ws)) rfl
      have bz : ieqB ((ws.length : Nat) : Int) 0 = false := by rw [ieqB_eq]; simpa using h0
      repeat refine LS.seq ?_
      refine LS.region rfl ?_
      refine OS.pure rfl (fun _ => rfl) rfl ?_
      refine OS.pure rfl (e_len hv1 rfl rfl rfl rfl rfl) rfl ?_
      refine OS.pure rfl (e_is (fun _ => rfl) (congrArg Value.bool bz)) rfl ?_
      refine OS.nil ?_
      repeat refine LS.seq ?_
      refine LS.cond rfl (fun h => ?_) (fun h => ?_)
      · cases h
      refine LS.skip ?_
      repeat refine LS.seq ?_
      refine LS.region rfl ?_
      refine OS.pure rfl (fun _ => rfl) rfl ?_
      refine OS.pure rfl (fun _ => rfl) rfl ?_
      refine OS.pure rfl (fun _ => rfl) rfl ?_
      refine OS.pure rfl (fun _ => rfl) rfl ?_
      refine OS.pure rfl (fun _ => rfl) rfl ?_
      refine OS.call noGo rfl (fun _ => rfl) ((Same_ct (A := ws) (B := ws) hv1 sx (by omega)).mono ?_)
      rintro v' L5 ⟨rfl, rfl⟩
      rw [decide_eq_true (rfl : ws = ws)]
      refine ⟨_, rfl, ?_⟩
      refine OS.pure rfl (fun _ => rfl) rfl ?_
      refine OS.pure rfl (fun _ => rfl) rfl ?_
      refine OS.pure rfl (fun _ => rfl) rfl ?_
      refine OS.pure rfl (fun _ => rfl) rfl ?_
      refine OS.pure rfl (fun _ => rfl) rfl ?_
      refine OS.pure rfl (fun _ => rfl) rfl ?_
      refine OS.pure rfl (fun _ => rfl) rfl ?_
      refine OS.pure rfl (e_len sl rfl rfl rfl rfl rfl) rfl ?_
      refine OS.pure rfl (fun _ => rfl) rfl ?_
      refine OS.pure rfl (fun _ => rfl) rfl ?_
      refine OS.pure rfl (fun _ => rfl) rfl ?_
      refine OS.pure rfl (fun _ => rfl) rfl ?_
      refine OS.at (j := 0) sl Nat.one_pos rfl rfl rfl rfl rfl rfl (fun r0 o0 row0 cs0 m0 c0 g0 _ => ?_)
      refine ⟨_, rfl, ?_⟩
      refine OS.pure rfl (fun _ => rfl) rfl ?_
      refine OS.read rfl (e_loadm m0 c0 rfl rfl (part_one rfl (g0 0 _ (by omega) y1))) rfl ?_
      refine OS.pure rfl (fun _ => rfl) rfl ?_
      refine OS.pure rfl (fun _ => rfl) rfl ?_
      refine OS.pure rfl (fun _ => rfl) rfl ?_
      refine OS.pure rfl (fun _ => rfl) rfl ?_
      refine OS.at (j := 0) sl Nat.one_pos rfl rfl rfl rfl rfl rfl (fun r1 o1 row1 cs1 m1 c1 q1 _ => ?_)
      refine ⟨_, rfl, ?_⟩
      refine OS.pure rfl (fun _ => rfl) rfl ?_
      refine OS.read rfl (e_loadm m1 c1 rfl rfl (part_one rfl (q1 1 _ (by omega) y2))) rfl ?_
      refine OS.pure rfl (fun _ => rfl) rfl ?_
      refine OS.call noGo rfl (fun _ => rfl) ((Same_ct (A := ws) (B := ws) y3 hv1 (by omega)).mono ?_)
      rintro v' L6 ⟨rfl, rfl⟩
      rw [decide_eq_true (rfl : ws = ws)]
      refine ⟨_, rfl, ?_⟩
      refine OS.pure rfl (fun _ => rfl) rfl ?_
      refine OS.pure rfl (fun _ => rfl) rfl ?_
      refine OS.nil ?_
      refine LS.ret ⟨_, fun _ _ => rfl, ?_⟩
      rfl
end Go.Proofs.YtdffhllecojgcaaDoor
