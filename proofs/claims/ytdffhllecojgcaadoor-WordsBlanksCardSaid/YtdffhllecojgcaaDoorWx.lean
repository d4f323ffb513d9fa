/- Layer 2: WordsLines's law, and WordsBlanks's. -/
import Derived.Test.YtdffhllecojgcaaDoorWv
namespace Go.Proofs.YtdffhllecojgcaaDoor
open Go.Am
set_option linter.unusedVariables false
set_option maxRecDepth 20000

theorem eqI (n : Int) : (!ieqB n n) = false := by rw [ieqB_eq]; simp
theorem LO_len : ∀ (R : List (List UInt8)) (no : Nat) (acc : LnT), (LO wordsOf errOf no acc R).1.length ≤ acc.length + R.length
  | [], _, _ => by simp [LO]
  | s :: R, no, acc => by
    rw [LO]
    split
    · have := LO_len R (no + 1) (if wordsOf s = [] then acc else acc ++ [(no, wordsOf s)])
      refine Nat.le_trans this ?_
      split
      · simp only [List.length_cons]; omega
      · simp only [List.length_append, List.length_cons, List.length_nil]; omega
    · simp
theorem segs_len : ∀ s : List UInt8, (segs s).length ≤ s.length + 1
  | [] => by simp [segs]
  | c :: t => by
    have := segs_len t
    rw [segs]
    split
    · simp only [List.length_cons]; omega
    · split
      · rename_i h; rw [h] at this; simp only [List.length_cons] at this ⊢; omega
      · simp
theorem lines_len (s : List UInt8) : (linesV s).1.length ≤ s.length + 1 := by
  have h1 := LO_len (segs s) 1 []
  have h2 := segs_len s
  simp only [List.length_nil, Nat.zero_add] at h1
  exact Nat.le_trans h1 h2
theorem LO_words : ∀ (R : List (List UInt8)) (no : Nat) (acc : LnT) (m : Nat), (∀ p ∈ acc, p.2.length ≤ m) → (∀ s ∈ R, s.length ≤ m) → ∀ p ∈ (LO wordsOf errOf no acc R).1, p.2.length ≤ m
  | [], _, acc, m, h1, _ => by simpa [LO] using h1
  | s :: R, no, acc, m, h1, h2 => by
    rw [LO]
    split
    · refine LO_words R (no + 1) _ m (fun p hp => ?_) (fun t ht => h2 t (List.mem_cons_of_mem _ ht))
      split at hp
      · exact h1 p hp
      · rcases List.mem_append.1 hp with hp | hp
        · exact h1 p hp
        · rw [List.mem_singleton] at hp
          subst hp
          exact Nat.le_trans (count_le s) (h2 s (List.mem_cons_self ..))
    · intro p hp; cases hp
theorem segs_mem : ∀ (s t : List UInt8), t ∈ segs s → t.length ≤ s.length
  | [], t, h => by simp [segs] at h; subst h; simp
  | c :: u, t, h => by
    rw [segs] at h
    split at h
    · rcases List.mem_cons.1 h with rfl | h
      · simp
      · have := segs_mem u t h; simp only [List.length_cons]; omega
    · split at h
      · rename_i h' r heq
        rcases List.mem_cons.1 h with rfl | h
        · have := segs_mem u h' (by rw [heq]; exact List.mem_cons_self ..); simp only [List.length_cons]; omega
        · have := segs_mem u t (by rw [heq]; exact List.mem_cons_of_mem _ h); simp only [List.length_cons]; omega
      · rw [List.mem_singleton] at h; subst h; simp
theorem lines_words (s : List UInt8) : ∀ p ∈ (linesV s).1, p.2.length ≤ s.length :=
  LO_words (segs s) 1 [] s.length (fun p hp => by cases hp) (segs_mem s)
theorem linesLaw_ct {L : RL} (s : List UInt8) (hs : s.length ≤ 9000000000000000) : CS Tryd.prog 5 [str s] L fun v _ => v = .bool true := by
  by_cases hl : s.length > 10000
  · have b1 : (!ileB (s.length : Int) 10000) = true := by rw [ileB_eq]; simp; omega
    refine CS.mk (fn := Tryd.f5) rfl rfl rfl rfl ?_
    repeat refine LS.seq ?_
    refine LS.region rfl ?_
    refine OS.pure rfl (fun _ => rfl) rfl ?_
    refine OS.nil ?_
    repeat refine LS.seq ?_
    refine LS.region rfl ?_
    refine OS.pure rfl (fun _ => rfl) rfl ?_
    refine OS.pure rfl (fun _ => rfl) rfl ?_
    refine OS.pure rfl (e_is (fun _ => rfl) (congrArg Value.bool b1)) rfl ?_
    refine OS.nil ?_
    repeat refine LS.seq ?_
    refine LS.cond rfl (fun h => ?_) (fun h => ?_)
    · repeat refine LS.seq ?_
      refine LS.region rfl ?_
      refine OS.call noGo rfl (fun _ => rfl) ((awake_ct).mono ?_)
      rintro v L' rfl
      refine ⟨_, rfl, ?_⟩
      refine OS.pure rfl (fun _ => rfl) rfl ?_
      refine OS.nil ?_
      refine LS.ret ⟨_, fun _ _ => rfl, ?_⟩
      rfl
    · cases h
  have b1 : (!ileB (s.length : Int) 10000) = false := by rw [ileB_eq]; simp; omega
  refine CS.mk (fn := Tryd.f5) rfl rfl rfl rfl ?_
  repeat refine LS.seq ?_
  refine LS.region rfl ?_
  refine OS.pure rfl (fun _ => rfl) rfl ?_
  refine OS.nil ?_
  repeat refine LS.seq ?_
  refine LS.region rfl ?_
  refine OS.pure rfl (fun _ => rfl) rfl ?_
  refine OS.pure rfl (fun _ => rfl) rfl ?_
  refine OS.pure rfl (e_is (fun _ => rfl) (congrArg Value.bool b1)) rfl ?_
  refine OS.nil ?_
  repeat refine LS.seq ?_
  refine LS.cond rfl (fun h => ?_) (fun h => ?_)
  · cases h
  refine LS.skip ?_
  repeat refine LS.seq ?_
  refine LS.region rfl ?_
  refine OS.pure rfl (fun _ => rfl) rfl ?_
  refine OS.call noGo rfl (fun _ => rfl) ((Lines_ct s (by omega)).mono ?_)
  rintro v L1 ⟨lv, cs, rfl, sv1, ln1, hm1⟩
  refine ⟨_, rfl, ?_⟩
  refine OS.pure rfl (fun _ => rfl) rfl ?_
  refine OS.pure rfl (fun _ => rfl) rfl ?_
  refine OS.pure rfl (fun _ => rfl) rfl ?_
  refine OS.pure rfl (fun _ => rfl) rfl ?_
  refine OS.pure rfl (fun _ => rfl) rfl ?_
  refine OS.pure rfl (fun _ => rfl) rfl ?_
  refine OS.pure rfl (fun _ => rfl) rfl ?_
  refine OS.nil ?_
  repeat refine LS.seq ?_
  refine LS.region rfl ?_
  refine OS.pure rfl (fun _ => rfl) rfl ?_
  refine OS.call noGo rfl (fun _ => rfl) ((refLines_ct s (by omega)).mono ?_)
  rintro v L2 ⟨lw, ds, rfl, sw0, ln2, hm2⟩
  refine ⟨_, rfl, ?_⟩
  refine OS.pure rfl (fun _ => rfl) rfl ?_
  refine OS.pure rfl (fun _ => rfl) rfl ?_
  refine OS.pure rfl (fun _ => rfl) rfl ?_
  refine OS.pure rfl (fun _ => rfl) rfl ?_
  refine OS.pure rfl (fun _ => rfl) rfl ?_
  refine OS.pure rfl (fun _ => rfl) rfl ?_
  refine OS.pure rfl (fun _ => rfl) rfl ?_
  refine OS.nil ?_
  have sv2 := sv1.mono hm2
  have ln1' := ln1.mono hm2
  have hll := lines_len s
  have hwl := lines_words s
  generalize linesV s = V at *
  obtain ⟨acc, no, e⟩ := V
  simp only [] at *
  have bn := eqI ((no : Nat) : Int)
  have be := eqI e
  have bl := eqI ((acc.length : Nat) : Int)
  repeat refine LS.seq ?_
  refine LS.region rfl ?_
  refine OS.pure rfl (fun _ => rfl) rfl ?_
  refine OS.pure rfl (fun _ => rfl) rfl ?_
  refine OS.pure rfl (e_is (fun _ => rfl) (congrArg Value.bool be)) rfl ?_
  refine OS.pure rfl (fun _ => rfl) rfl ?_
  refine OS.pure rfl (fun _ => rfl) rfl ?_
  refine OS.pure rfl (fun _ => rfl) rfl ?_
  refine OS.pure rfl (e_is (fun _ => rfl) (congrArg Value.bool bn)) rfl ?_
  refine OS.pure rfl (fun _ => rfl) rfl ?_
  refine OS.pure rfl (fun _ => rfl) rfl ?_
  refine OS.pure rfl (fun _ => rfl) rfl ?_
  refine OS.pure rfl (e_len sv2 rfl rfl rfl rfl rfl) rfl ?_
  refine OS.pure rfl (fun _ => rfl) rfl ?_
  refine OS.pure rfl (e_len sw0 rfl rfl rfl rfl rfl) rfl ?_
  refine OS.pure rfl (e_is (fun _ => rfl) (congrArg Value.bool bl)) rfl ?_
  refine OS.pure rfl (fun _ => rfl) rfl ?_
  refine OS.nil ?_
  repeat refine LS.seq ?_
  refine LS.cond rfl (fun h => ?_) (fun h => ?_)
  · cases h
  refine LS.skip ?_
  repeat refine LS.seq ?_
  refine LS.region rfl ?_
  refine OS.pure rfl (fun _ => rfl) rfl ?_
  refine OS.nil ?_
  repeat refine LS.seq ?_
  refine LS.block ?_
  refine LS.loopJ [0, 3, 6, 9] (fun q a L' => ∃ i : Nat, q = acc.length - i ∧ i ≤ acc.length ∧ L' = L2 ∧ a = [str s, .chan none, .chan none, lv, .chan none, .chan none, lw, .chan none, .chan none, .int .i64 (i : Nat), .chan none, .chan none, .chan none, .chan none, .chan none, .chan none, .chan none, .chan none, .chan none, .chan none, .chan none, .chan none, .chan none, .chan none, .chan none, .chan none, .chan none, .chan none, .chan none, .chan none, .chan none, .chan none, .chan none, .chan none, .chan none, .chan none, .chan none, .chan none, .chan none, .chan none, .chan none, .chan none, .chan none, .chan none, .chan none, .chan none, .chan none, .chan none, .chan none, .chan none, .chan none, .chan none, .chan none, .chan none, .chan none, .chan none, .chan none, .chan none, .chan none, .chan none, .chan none, .chan none, .chan none, .chan none, .chan none, .chan none, .chan none, .chan none, .chan none, .chan none, .chan none, .chan none, .chan none]) (n := acc.length) rfl ⟨0, rfl, by omega, rfl, rfl⟩ ?_
  rintro q a L' ⟨i, rfl, hi, rfl, rfl⟩
  repeat refine LS.seq ?_
  refine LS.region rfl ?_
  refine OS.pure rfl (fun _ => rfl) rfl ?_
  refine OS.pure rfl (fun _ => rfl) rfl ?_
  refine OS.pure rfl (e_len sv2 rfl rfl rfl rfl rfl) rfl ?_
  refine OS.pure rfl (fun _ => rfl) rfl ?_
  refine OS.nil ?_
  repeat refine LS.seq ?_
  refine LS.cond rfl (fun hc => ?_) (fun hc => ?_)
  · have hc : (i : Int) < acc.length := lt_of hc
    have hil : i < acc.length := by omega
    have hget : acc[i]? = some (acc[i]'hil) := List.getElem?_eq_getElem hil
    have hpl := hwl _ (List.getElem_mem hil)
    generalize acc[i] = p at hget hpl
    obtain ⟨u1, x1, x2, x3⟩ := ln1'.at hget
    obtain ⟨u2, y1, y2, y3⟩ := ln2.at hget
    have bp := eqI ((p.1 : Nat) : Int)
    refine LS.skip ?_
    repeat refine LS.seq ?_
    refine LS.block ?_
    repeat refine LS.seq ?_
    refine LS.drawn noGo mixed [(0, false), (1, false), (2, false), (3, false), (4, false), (5, false), (6, false), (7, false), (8, false), (9, false), (10, false), (11, false), (12, false), (13, false), (14, false), (15, false), (16, false), (17, false), (18, false), (19, false), (20, false), (21, false), (22, true), (23, false), (24, false)] rfl rfl (by kernel_rfl) ?_
    refine ODS.pure rfl rfl (fun _ => rfl) rfl ?_
    refine ODS.pure rfl rfl (fun _ => rfl) rfl ?_
    refine ODS.at (j := i) sv2 hil rfl rfl rfl rfl rfl rfl rfl (fun r1 o1 row1 cs1 m1 c1 g1 _ => ⟨_, rfl, ?_⟩)
    refine ODS.pure rfl rfl (fun _ => rfl) rfl ?_
    refine ODS.read rfl rfl (e_loadm m1 c1 rfl rfl (part_one rfl (g1 0 _ (by omega) x1))) rfl ?_
    refine ODS.pure rfl rfl (fun _ => rfl) rfl ?_
    refine ODS.pure rfl rfl (fun _ => rfl) rfl ?_
    refine ODS.at (j := i) sw0 hil rfl rfl rfl rfl rfl rfl rfl (fun r2 o2 row2 cs2 m2 c2 g2 _ => ⟨_, rfl, ?_⟩)
    refine ODS.pure rfl rfl (fun _ => rfl) rfl ?_
    refine ODS.read rfl rfl (e_loadm m2 c2 rfl rfl (part_one rfl (g2 0 _ (by omega) y1))) rfl ?_
    refine ODS.pure rfl rfl (e_is (fun _ => rfl) (congrArg Value.bool bp)) rfl ?_
    refine ODS.pure rfl rfl (fun _ => rfl) rfl ?_
    refine ODS.pure rfl rfl (fun _ => rfl) rfl ?_
    refine ODS.pure rfl rfl (fun _ => rfl) rfl ?_
    refine ODS.at (j := i) sv2 hil rfl rfl rfl rfl rfl rfl rfl (fun r3 o3 row3 cs3 m3 c3 g3 _ => ⟨_, rfl, ?_⟩)
    refine ODS.pure rfl rfl (fun _ => rfl) rfl ?_
    refine ODS.read rfl rfl (e_loadm m3 c3 rfl rfl (part_one rfl (g3 1 _ (by omega) x2))) rfl ?_
    refine ODS.pure rfl rfl (fun _ => rfl) rfl ?_
    refine ODS.pure rfl rfl (fun _ => rfl) rfl ?_
    refine ODS.at (j := i) sw0 hil rfl rfl rfl rfl rfl rfl rfl (fun r4 o4 row4 cs4 m4 c4 g4 _ => ⟨_, rfl, ?_⟩)
    refine ODS.pure rfl rfl (fun _ => rfl) rfl ?_
    refine ODS.read rfl rfl (e_loadm m4 c4 rfl rfl (part_one rfl (g4 1 _ (by omega) y2))) rfl ?_
    refine ODS.call rfl rfl (fun _ => rfl) ((Same_ct (A := p.2) (B := p.2) x3 y3 (by omega)).mono ?_)
    rintro v' L3 ⟨rfl, rfl⟩
    rw [decide_eq_true (rfl : p.2 = p.2)]
    refine ⟨_, rfl, Keep.gone rfl (Keep.gone rfl (Keep.gone rfl (Keep.gone rfl Keep.nil))), ?_⟩
    refine ODS.pure rfl rfl (fun _ => rfl) rfl ?_
    refine ODS.pure rfl rfl (fun _ => rfl) rfl ?_
    refine ODS.nil ?_
    repeat refine LS.seq ?_
    refine LS.cond rfl (fun h => ?_) (fun h => ?_)
    · cases h
    refine LS.skip ?_
    repeat refine LS.seq ?_
    refine LS.region rfl ?_
    refine OS.pure rfl (fun _ => rfl) rfl ?_
    refine OS.pure rfl (e_add (m := (i : Int)) (n := 1) rfl rfl rfl (in_i64 (by omega) (by omega))) rfl ?_
    rw [show ((i : Nat) : Int) + 1 = ((i + 1 : Nat) : Int) by omega]
    refine OS.pure rfl (fun _ => rfl) rfl ?_
    refine OS.nil ?_
    exact ⟨acc.length - (i + 1), by omega, i + 1, rfl, by omega, rfl, rfl⟩
  · refine LS.exit ?_
    repeat refine LS.seq ?_
    refine LS.region rfl ?_
    refine OS.call noGo rfl (fun _ => rfl) ((awake_ct).mono ?_)
    rintro v L' rfl
    refine ⟨_, rfl, ?_⟩
    refine OS.pure rfl (fun _ => rfl) rfl ?_
    refine OS.nil ?_
    refine LS.ret ⟨_, fun _ _ => rfl, ?_⟩
    rfl
end Go.Proofs.YtdffhllecojgcaaDoor
