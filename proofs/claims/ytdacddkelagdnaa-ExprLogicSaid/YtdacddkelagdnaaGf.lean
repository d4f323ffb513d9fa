/- Layer 10: the document's Match. -/
import Derived.Test.YtdacddkelagdnaaGe
namespace Go.Am
theorem Sub.trans {A B C : RL} (h : Sub A B) (g : Sub B C) : Sub A C := by
  obtain ⟨X, hX⟩ := h
  obtain ⟨Y, hY⟩ := g
  refine ⟨X ++ Y, ?_⟩
  rw [← List.append_assoc]
  exact hY.trans (hX.append_right Y)
end Go.Am
namespace Go.Proofs.Ytdacddkelagdnaa
open Go.Am
set_option linter.unusedVariables false
set_option maxRecDepth 20000
set_option maxHeartbeats 4000000
attribute [local irreducible] OS LSr ODS CS

theorem Cl.mono {L L' : RL} {O : List Value} {n j k : Nat} {b : Bool} (h : Cl L O n j k b) (hm : ∀ x, x ∈ L → x ∈ L') : Cl L' O n j k b := by
  obtain ⟨r, c, cs, h1, h2, h3⟩ := h
  exact ⟨r, c, cs, h1, h2.mono hm, h3⟩
theorem Cl.set {L : RL} {O : List Value} {n i j k : Nat} {b : Bool} {v : Value} (h : Cl L O n j k b) (hij : i ≠ j) : Cl L (O.set i v) n j k b := by
  obtain ⟨r, c, cs, h1, h2, h3⟩ := h
  exact ⟨r, c, cs, by rw [List.getElem?_set_ne hij]; exact h1, h2, h3⟩
theorem Cl.here {L : RL} {O : List Value} {n i k r : Nat} {f : Nat → Bool} (hO : O[i]? = some (rowSl r n)) (hm : (r, rowRow n f) ∈ L) (hk : k < n) : Cl L O n i k (f k) :=
  ⟨r, n, _, hO, SV.row hm (by rw [rw_len]; omega), rw_at' hk⟩
theorem refMatch_ct {F : RL} (p s : List UInt8) (hs : s.length ≤ 1000000) : CS Try.prog 33 [str p, str s] F fun v L' => v = .bool (mt p s) ∧ L' = F := by
  suffices h : CS Try.prog 33 [str p, str s] F fun v L' => v = .bool (mt p s) ∧ Sub F L' from
    h.less fun v L' ⟨h1, h2⟩ => ⟨F, h2, h1, rfl⟩
  refine CS.mk (fn := Try.f33) rfl rfl rfl rfl ?_
  refine yG ?_
  refine OS.call noGo rfl (fun _ => rfl) ((refCheck_ct p).mono ?_)
  rintro v L' ⟨rfl, h2⟩
  rw [h2]
  clear h2
  by_cases hp : chk p = 0
  rotate_left
  · have hb : (!ieqB (chk p) 0) = true := by rw [ieqB_eq]; simpa using hp
    refine yG ?_
    refine ⟨?_, ⟨[], by simp⟩⟩
    unfold mt
    rw [decide_eq_false hp]; rfl
  have hb : (!ieqB (chk p) 0) = false := by rw [hp]; rfl
  have hpl : p.length ≤ 64 := by
    unfold chk at hp
    split at hp
    · cases hp
    · omega
  refine yG ?_
  refine OS.fresh rfl (e_make (l := p.length + 1) (c := p.length + 1) (e := 74) (sz := 1) (bts := 24) (zs := [.slice none 0 0]) rfl rfl rfl rfl (by omega) (by omega) (by omega)) (fun _ => rfl) (fun ro => ?_)
  rw [repL_one]
  refine yG ?_
  refine LS.loopJ [0, 1, 5, 6] (fun q a L' => ∃ (z : Int) (O : List Value) (X : RL), z = (q : Int) - 1 ∧ q ≤ p.length + 1 ∧ O.length = p.length + 1 ∧ Sub F X ∧ (∀ j k, q ≤ j → j ≤ p.length → k ≤ s.length → Cl X O (s.length + 1) j k (mB p s j k)) ∧
    L' = (ro, .cells 74 O) :: X ∧ a = [str p, str s, .chan none, .chan none, .chan none, rowSl ro (p.length + 1), .int .i64 z, .chan none, .chan none, .chan none, .chan none, .chan none, .chan none, .chan none, .chan none, .chan none, .chan none, .chan none, .chan none, .chan none, .chan none, .chan none, .chan none, .chan none, .chan none, .chan none, .chan none, .chan none, .chan none, .chan none, .chan none, .chan none, .chan none, .chan none, .chan none, .chan none, .chan none, .chan none, .chan none, .chan none, .chan none, .chan none, .chan none, .chan none, .chan none, .chan none, .chan none, .chan none, .chan none, .chan none, .chan none]) (n := p.length + 1) rfl
    ⟨(p.length : Nat), _, F, by omega, Nat.le_refl _, List.length_replicate .., ⟨[], by simp⟩, fun j k h1 h2 _ => by omega, rfl, rfl⟩ ?_
  rintro q a L' ⟨z, O, X, hz, hq, hO, hF, hT, rfl, rfl⟩
  cases q with
  | zero =>
    obtain rfl : z = -1 := by omega
    refine yG ?_
    refine LS.exit ?_
    have h0 := hT 0 0 (Nat.le_refl _) (by omega) (by omega)
    obtain ⟨r0, c0, cs0, o0, s0, g0⟩ := h0.mono (L' := (ro, .cells 74 O) :: X) (fun x hx => List.mem_cons_of_mem _ hx)
    refine yG ?_
    refine OS.pure rfl (e_index (j := 0) (sz := 1) rfl rfl rfl rfl rfl (by omega)) rfl ?_
    refine OS.read rfl (e_load 0 rfl rfl rfl rfl (part_one rfl (by rw [show 0 + 0 * 1 = 0 by omega]; exact o0))) rfl ?_
    refine yG ?_
    refine OS.at1 (j := 0) (s0) (g0) rfl rfl rfl rfl rfl rfl (fun ra0 oa0 rowa0 csa0 ma0 ca0 ga0 => ⟨_, rfl, ?_⟩)
    refine OS.read rfl (e_loadm ma0 ca0 rfl rfl (part_one rfl ga0)) rfl ?_
    refine yG ?_
    refine ⟨?_, hF.trans Sub.tail⟩
    unfold mt
    rw [decide_eq_true hp]; rfl
  | succ i =>
    obtain rfl : z = (i : Nat) := by omega
    have hb1 : ileB 0 ((i : Nat) : Int) = true := ileB_iff.2 (by omega)
    refine yG ?_
    refine OS.fresh rfl (e_make (l := s.length + 1) (c := s.length + 1) (e := 4) (sz := 1) (bts := 1) (zs := [.bool false]) rfl rfl rfl rfl (by omega) (by omega) (by omega)) (fun _ => rfl) (fun rn => ?_)
    rw [repL_bool]
    refine OS.pure rfl (e_index (j := i) (sz := 1) rfl rfl rfl rfl rfl (by omega)) rfl ?_
    refine OS.write rfl (e_store 1 (n := 1) rfl rfl rfl rfl rfl rfl (lay_one (by omega)) rfl) rfl ?_
    rw [show 0 + i * 1 = i by omega]
    have hOi : (O.set i (rowSl rn (s.length + 1)))[0 + i * 1]? = some (rowSl rn (s.length + 1)) := by
      rw [show 0 + i * 1 = i by omega]; exact List.getElem?_set_self (by omega)
    have hOl : (O.set i (rowSl rn (s.length + 1))).length = p.length + 1 := by rw [List.length_set]; exact hO
    have hTs : ∀ j k, i < j → j ≤ p.length → k ≤ s.length → Cl X (O.set i (rowSl rn (s.length + 1))) (s.length + 1) j k (mB p s j k) := fun j k h1 h2 h3 => (hT j k (by omega) h2 h3).set (by omega)
    generalize O.set i (rowSl rn (s.length + 1)) = O' at hOi hOl hTs
    refine yG ?_
    refine LS.loopJ [0, 1, 5, 6, 7] (fun u a L' => ∃ y : Int, y = (u : Int) - 1 ∧ u ≤ s.length + 1 ∧ L' = (rn, rowRow (s.length + 1) fun k => decide (u ≤ k) && mB p s i k) :: (ro, .cells 74 O') :: X ∧
      a = [str p, str s, .chan none, .chan none, .chan none, rowSl ro (p.length + 1), .int .i64 (i : Nat), .int .i64 y, .chan none, .chan none, .chan none, .chan none, .chan none, .chan none, .chan none, .chan none, .chan none, .chan none, .chan none, .chan none, .chan none, .chan none, .chan none, .chan none, .chan none, .chan none, .chan none, .chan none, .chan none, .chan none, .chan none, .chan none, .chan none, .chan none, .chan none, .chan none, .chan none, .chan none, .chan none, .chan none, .chan none, .chan none, .chan none, .chan none, .chan none, .chan none, .chan none, .chan none, .chan none, .chan none, .chan none]) (n := s.length + 1) rfl ⟨(s.length : Nat), by omega, Nat.le_refl _, ?_, rfl⟩ ?_
    · congr 2
      unfold rowRow
      congr 1
      refine rw_congr fun k h => ?_
      rw [decide_eq_false (by omega)]; rfl
    rintro u a L' ⟨y, hy, hu, rfl, rfl⟩
    cases u with
    | zero =>
      obtain rfl : y = -1 := by omega
      refine yG ?_
      refine LS.exit ?_
      refine LS.sub (Sub.pulls [1] rfl) ?_
      refine yG ?_
      refine OS.pure rfl (e_sub rfl rfl rfl (in_i64 (by omega) (by omega))) rfl ?_
      refine yG ?_
      refine ⟨i, by omega, _, O', (rn, rowRow (s.length + 1) fun k => mB p s i k) :: X, rfl, by omega, hOl, hF.trans Sub.tail, ?_, ?_, rfl⟩
      · intro j k h1 h2 h3
        by_cases hj : j = i
        · subst hj
          exact Cl.here (f := fun k => mB p s j k) (by rw [show 0 + j * 1 = j by omega] at hOi; exact hOi) (List.mem_cons_self ..) (by omega)
        · exact (hTs j k (by omega) h2 h3).mono fun x hx => List.mem_cons_of_mem _ hx
      · congr 3
    | succ m =>
      obtain rfl : y = (m : Nat) := by omega
      have hb2 : ileB 0 ((m : Nat) : Int) = true := ileB_iff.2 (by omega)
      refine yG ?_
      repeat refine LS.seq ?_
      have hcl : ∀ j k, (i < j ∨ (j = i ∧ m < k)) → j ≤ p.length → k ≤ s.length → Cl ((rn, rowRow (s.length + 1) fun k => decide (m + 1 ≤ k) && mB p s i k) :: (ro, .cells 74 O') :: X) O' (s.length + 1) j k (mB p s j k) := by
        rintro j k (h1 | ⟨rfl, h1⟩) h2 h3
        · exact (hTs j k h1 h2 h3).mono fun x hx => List.mem_cons_of_mem _ (List.mem_cons_of_mem _ hx)
        · have := Cl.here (L := (rn, rowRow (s.length + 1) fun k => decide (m + 1 ≤ k) && mB p s j k) :: (ro, .cells 74 O') :: X) (O := O') (i := j) (k := k) (f := fun k => decide (m + 1 ≤ k) && mB p s j k) (by rw [show 0 + j * 1 = j by omega] at hOi; exact hOi) (List.mem_cons_self ..) (show k < s.length + 1 by omega)
          simpa [show m + 1 ≤ k by omega] using this
      repeat refine LS.seq ?_
      refine LS.drawn noGo mixed [(0, false), (1, false), (2, false), (3, false), (4, false), (5, false), (6, false), (7, false), (8, false), (9, false), (10, true), (11, false), (12, true)] rfl rfl (by kernel_rfl) ?_
      refine ODS.pure rfl rfl (fun _ => rfl) rfl ?_
      refine ODS.pure rfl rfl (fun _ => rfl) rfl ?_
      refine ODS.pure rfl rfl (e_index (j := i) (sz := 1) rfl rfl rfl rfl rfl (by omega)) rfl ?_
      refine ODS.read rfl rfl (e_load 1 rfl rfl rfl rfl (part_one rfl hOi)) rfl ?_
      refine ODS.pure rfl rfl (fun _ => rfl) rfl ?_
      refine ODS.pure rfl rfl (fun _ => rfl) rfl ?_
      refine ODS.pure rfl rfl (fun _ => rfl) rfl ?_
      refine ODS.pure rfl rfl (fun _ => rfl) rfl ?_
      refine ODS.pure rfl rfl (fun _ => rfl) rfl ?_
      refine ODS.pure rfl rfl (fun _ => rfl) rfl ?_
      refine ODS.call rfl rfl (fun _ => rfl) ((one_ct (O := O') (SV.row (List.mem_cons_of_mem _ (List.mem_cons_self ..)) (by omega)) (by omega) hs (by omega) (by omega) hcl).mono ?_)
      rintro v L' ⟨rfl, rfl⟩
      refine ⟨_, rfl, Keep.cons rfl (e_load 1 rfl rfl rfl rfl (part_one rfl hOi)) Keep.nil, ?_⟩
      refine ODS.pure rfl rfl (e_index (j := m) (sz := 1) rfl rfl rfl rfl rfl (by omega)) rfl ?_
      refine ODS.write rfl rfl (e_store 0 (n := 1) rfl rfl rfl rfl rfl rfl (rw_lay (mB p s i m) (by omega)) rfl) rfl (Keep.gone rfl Keep.nil) ?_
      refine ODS.nil ?_
      refine yG ?_
      refine OS.pure rfl (e_sub rfl rfl rfl (in_i64 (by omega) (by omega))) rfl ?_
      refine yG ?_
      refine ⟨m, by omega, _, rfl, by omega, ?_, rfl⟩
      congr 2
      unfold rowRow
      congr 1
      refine rw_congr fun k h => ?_
      by_cases hk : k = m
      · subst hk; simp
      · rw [if_neg hk]
        congr 1
        rw [Bool.eq_iff_iff]; simp; omega
end Go.Proofs.Ytdacddkelagdnaa
