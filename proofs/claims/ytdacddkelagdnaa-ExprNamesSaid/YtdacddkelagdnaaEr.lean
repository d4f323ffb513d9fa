/- Layer 11: ExprNames's law. -/
import Derived.Test.YtdacddkelagdnaaEn
namespace Go.Proofs.Ytdacddkelagdnaa
open Go.Am
set_option linter.unusedVariables false
set_option maxRecDepth 20000
set_option maxHeartbeats 4000000
attribute [local irreducible] OS LSr ODS CS

/-- So many of a word, a comparison, and as many of another one. -/
def deepP (n : Nat) (w b : W) : List W := List.replicate n w ++ [[97], [61, 61], [97]] ++ (if b = [] then [] else List.replicate n b)
theorem deep_ct {F : RL} (n : Nat) (w b : W) (hn : n ≤ 100) : CS Try.prog 10 [.int .i64 (n : Nat), str w, str b] F fun u L' => GT F u (deepP n w b) L' := by
  have one : ∀ {L M : RL} {u : Value} {T : List W} {x : W} {r : Nat}, GT F u T L → GT F (.slice (some ⟨r, 0, none⟩) (T.length + 1) openCap) (T ++ [x]) ((r, .cells 9 (strs T ++ [str x])) :: F) := by
    intro L M u T x r _
    unfold GT
    rw [strs_snoc, List.length_append]
    exact GV.of (by simp [strs_len])
  refine CS.mk (fn := Try.f10) rfl rfl rfl rfl ?_
  refine yG ?_
  refine LS.loopJ [0, 1, 2, 7, 8] (fun q a L' => ∃ (k : Nat) (u : Value), q = n - k ∧ k ≤ n ∧ GT F u (List.replicate k w) L' ∧ a = [.int .i64 (n : Nat), str w, str b, .chan none, .chan none, .chan none, .chan none, u, .int .i64 (k : Nat), .chan none, .chan none, .chan none, .chan none, .chan none, .chan none, .chan none, .chan none, .chan none, .chan none, .chan none, .chan none, .chan none, .chan none, .chan none, .chan none, .chan none, .chan none, .chan none, .chan none, .chan none, .chan none, .chan none, .chan none, .chan none, .chan none, .chan none]) (n := n) rfl ⟨0, .slice none 0 0, rfl, by omega, .nil, rfl⟩ ?_
  rintro q a L' ⟨k, u, rfl, hk, hg, rfl⟩
  have hl1 : (List.replicate k w).length = k := List.length_replicate
  refine yG ?_
  repeat refine LS.seq ?_
  refine LS.cond rfl (fun hc => ?_) (fun hc => ?_)
  · have hc := lt_of hc
    refine LS.skip ?_
    repeat refine LS.seq ?_
    refine LS.block ?_
    refine yG ?_
    refine OS.fresh rfl (e_new (fun _ => rfl) rfl) (fun _ => rfl) (fun r1 => ?_)
    refine OS.fresh rfl (e_appendGV [(r1, .cells 9 [str w])] (sz := 1) (bts := 16) (m := 1) (new := [str w]) hg (SV.row (List.mem_cons_self ..) rfl) (by decide) rfl rfl rfl rfl (by omega) (by omega)) (fun _ => rfl) (fun r2 => ?_)
    refine OS.sub (Sub.drop 1 rfl) ?_
    refine yG ?_
    exact ⟨n - (k + 1), by omega, k + 1, _, rfl, by omega, (one (M := []) hg).to List.replicate_succ'.symm, rfl⟩
  have hc := nlt_of hc
  obtain rfl : k = n := by omega
  refine LS.exit ?_
  refine yG ?_
  refine OS.fresh rfl (e_new (fun _ => rfl) rfl) (fun _ => rfl) (fun r1 => ?_)
  refine OS.fresh rfl (e_appendGV [(r1, .cells 9 [str [97], str [61, 61], str [97]])] (sz := 1) (bts := 16) (m := 3) (new := [str [97], str [61, 61], str [97]]) hg (SV.row (List.mem_cons_self ..) rfl) (by decide) rfl rfl rfl rfl (by omega) (by omega)) (fun _ => rfl) (fun r2 => ?_)
  refine OS.sub (Sub.drop 1 rfl) ?_
  have hg2 : GT F (.slice (some ⟨r2, 0, none⟩) ((List.replicate k w).length + 3) openCap) (List.replicate k w ++ [[97], [61, 61], [97]]) ((r2, .cells 9 (strs (List.replicate k w) ++ [str [97], str [61, 61], str [97]])) :: F) := by
    unfold GT
    rw [strs_app, List.length_append]
    exact GV.of (by simp [strs_len])
  generalize hT : List.replicate k w ++ [[97], [61, 61], [97]] = T at hg2
  have hTl : T.length = k + 3 := by rw [← hT]; simp
  have hD : deepP k w b = T ++ (if b = [] then [] else List.replicate k b) := by unfold deepP; rw [hT]
  refine yG ?_
  refine LS.loopJ [0, 2, 7, 9] (fun q a L' => ∃ (j : Nat) (u : Value), q = k - j ∧ j ≤ k ∧ (b = [] → j = 0) ∧ GT F u (T ++ List.replicate j b) L' ∧ a = [.int .i64 (k : Nat), .chan none, str b, .chan none, .chan none, .chan none, .chan none, u, .chan none, .int .i64 (j : Nat), .chan none, .chan none, .chan none, .chan none, .chan none, .chan none, .chan none, .chan none, .chan none, .chan none, .chan none, .chan none, .chan none, .chan none, .chan none, .chan none, .chan none, .chan none, .chan none, .chan none, .chan none, .chan none, .chan none, .chan none, .chan none, .chan none]) (n := k) rfl ⟨0, _, rfl, by omega, fun _ => rfl, hg2.to (by simp), rfl⟩ ?_
  rintro q a L' ⟨j, u2, rfl, hj, hjb, hg3, rfl⟩
  have hl3 : (T ++ List.replicate j b).length = k + 3 + j := by simp [hTl]
  by_cases hc : j < k
  · have b1 : (!ileB ((k : Nat) : Int) (j : Nat)) = true := by rw [ileB_eq]; simp; omega
    by_cases hb : b = []
    · have b2 : (!bytesEq b []) = false := by rw [beq_bytes]; simpa using hb
      refine yG ?_
      refine LS.exit ?_
      refine yG ?_
      refine hg3.to ?_
      rw [hD, hjb hb, if_pos hb]; rfl
    · have b2 : (!bytesEq b []) = true := by rw [beq_bytes]; simpa using hb
      refine yG ?_
      refine OS.fresh rfl (e_new (fun _ => rfl) rfl) (fun _ => rfl) (fun r3 => ?_)
      refine OS.fresh rfl (e_appendGV [(r3, .cells 9 [str b])] (sz := 1) (bts := 16) (m := 1) (new := [str b]) hg3 (SV.row (List.mem_cons_self ..) rfl) (by decide) rfl rfl rfl rfl (by omega) (by omega)) (fun _ => rfl) (fun r4 => ?_)
      refine OS.sub (Sub.drop 1 rfl) ?_
      refine yG ?_
      exact ⟨k - (j + 1), by omega, j + 1, _, rfl, by omega, fun h => absurd h hb, (one (M := []) hg3).to (by rw [List.append_assoc, ← List.replicate_succ']), rfl⟩
  · have b1 : (!ileB ((k : Nat) : Int) (j : Nat)) = false := by rw [ileB_eq]; simp; omega
    obtain rfl : j = k := by omega
    refine yG ?_
    refine LS.exit ?_
    refine yG ?_
    refine hg3.to ?_
    rw [hD]
    by_cases hb : b = []
    · rw [if_pos hb, hjb hb]; rfl
    · rw [if_neg hb]
theorem valueIs {s : Value} {ws : List W} {F : RL} (b : Bool) (e : Nat) (hs : Wd F s ws) (h : (Fif ws && (valF (parse ws) == b && decide (errN (parse ws) = e))) = true) : CS Try.prog 8 [s] F fun v L' => v = .tuple #[.bool b, .int .i64 (e : Nat)] ∧ L' = F := by
  rw [Bool.and_eq_true, Bool.and_eq_true, beq_iff_eq, decide_eq_true_iff] at h
  have := Value_ct hs (Fif.fit h.1)
  rw [val_F, h.2.1, h.2.2] at this
  exact this
theorem nilWords_ct {L : RL} : CS Try.prog 12 [.pointer none] L fun u L' => u = .slice none 0 0 ∧ L' = L := by
  refine CS.mk (fn := Try.f12) rfl rfl rfl rfl ?_
  refine yG ?_
  exact ⟨rfl, rfl⟩
theorem nilTexts_ct {L : RL} : CS Try.prog 13 [.pointer none] L fun u L' => u = .slice none 0 0 ∧ L' = L := by
  refine CS.mk (fn := Try.f13) rfl rfl rfl rfl ?_
  refine yG ?_
  exact ⟨rfl, rfl⟩
/-- What is none. -/
def bad : List W := [[], [97], [97, 32, 61, 61], [97, 32, 61, 61, 32, 98, 32, 99], [40, 32, 97, 32, 61, 61, 32, 97], [97, 32, 61, 61, 32, 97, 32, 41], [97, 110, 100], [97, 32, 61, 61, 32, 97, 32, 111, 114], [97, 32, 61, 61, 32, 97, 32, 97, 110, 100, 32, 97, 110, 100, 32, 97, 32, 61, 61, 32, 97], [110, 111, 116], [40, 32, 41], [97, 32, 61, 32, 97], [111, 114, 32, 97, 32, 61, 61, 32, 97]]
theorem bad_true {s : W} (h : s ∈ bad) : (Fif (split s) && (valF (parse (split s)) == false && decide (errN (parse (split s)) = 4))) = true ∧ s.length ≤ 10000 := by
  have hall : bad.all (fun s => (Fif (split s) && (valF (parse (split s)) == false && decide (errN (parse (split s)) = 4))) && decide (s.length ≤ 10000)) = true := by decide +kernel
  have := List.all_eq_true.1 hall s h
  rw [Bool.and_eq_true (_ && _), decide_eq_true_iff] at this
  exact this
theorem namesLaw_ct {L : RL} : CS Try.prog 3 [] L fun u _ => u = .bool true := by
  refine CS.mk (fn := Try.f3) rfl rfl rfl rfl ?_
  refine yG ?_
  refine OS.call noGo rfl (fun _ => rfl) ((works_ct).mono ?_)
  rintro v' L2 ⟨rfl, hL⟩
  rw [hL]
  clear hL
  refine yG ?_
  refine OS.fresh rfl (e_new (fun _ => rfl) rfl) (fun _ => rfl) (fun rl => ?_)
  refine OS.gen fun R0 hR0 => ?_
  have hT : SV 1 R0 (.slice (some ⟨rl, 0, none⟩) 13 13) 13 (strs bad) := by rw [hR0]; exact SV.row (List.mem_cons_self ..) rfl
  have hbt : ∀ s ∈ bad, _ := fun s hs => bad_true hs
  have hbl : bad.length = 13 := rfl
  clear hR0
  generalize bad = bd at hT hbt hbl
  refine yG ?_
  refine LS.loopJ [28, 29, 30] (fun q a L' => ∃ (k : Nat) (X : RL), q = 13 - k ∧ k ≤ 13 ∧ L' = X ++ R0 ∧ a = [.chan none, .chan none, .chan none, .chan none, .chan none, .chan none, .chan none, .chan none, .chan none, .chan none, .chan none, .chan none, .chan none, .chan none, .chan none, .chan none, .chan none, .chan none, .chan none, .chan none, .chan none, .chan none, .chan none, .chan none, .chan none, .chan none, .chan none, .chan none, .slice (some ⟨rl, 0, none⟩) 13 13, .int .i64 13, .int .i64 (k : Nat), .chan none, .chan none, .chan none, .chan none, .chan none, .chan none, .chan none, .chan none, .chan none, .chan none, .chan none, .chan none, .chan none, .chan none, .chan none, .chan none, .chan none, .chan none, .chan none, .chan none, .chan none, .chan none, .chan none, .chan none, .chan none, .chan none, .chan none, .chan none, .chan none, .chan none, .chan none, .chan none, .chan none, .chan none, .chan none, .chan none, .chan none, .chan none, .chan none, .chan none, .chan none, .chan none, .chan none, .chan none, .chan none, .chan none, .chan none, .chan none, .chan none, .chan none, .chan none, .chan none, .chan none, .chan none, .chan none, .chan none, .chan none, .chan none, .chan none, .chan none, .chan none, .chan none, .chan none, .chan none, .chan none, .chan none, .chan none, .chan none, .chan none, .chan none, .chan none, .chan none, .chan none, .chan none, .chan none, .chan none, .chan none, .chan none, .chan none, .chan none, .chan none, .chan none, .chan none, .chan none, .chan none, .chan none, .chan none, .chan none, .chan none, .chan none, .chan none, .chan none, .chan none, .chan none, .chan none, .chan none, .chan none, .chan none, .chan none, .chan none, .chan none, .chan none, .chan none, .chan none, .chan none, .chan none, .chan none]) (n := 13) rfl ⟨0, [], rfl, by omega, rfl, rfl⟩ ?_
  rintro q a L' ⟨k, X, rfl, hk, rfl, rfl⟩
  have hTX := hT.mono (L' := X ++ R0) fun y hy => List.mem_append_right _ hy
  refine yG ?_
  repeat refine LS.seq ?_
  refine LS.cond rfl (fun hc => ?_) (fun hc => ?_)
  · have hc := lt_of hc
    obtain ⟨s, hs⟩ := ext_list (l := bd) (k := k) (by omega)
    obtain ⟨hv, hsl⟩ := hbt s (List.mem_of_getElem? hs)
    refine LS.skip ?_
    repeat refine LS.seq ?_
    refine LS.block ?_
    refine yG ?_
    refine OS.at1 (j := k) (hTX) (strs_at hs) rfl rfl rfl rfl rfl rfl (fun ra0 oa0 rowa0 csa0 ma0 ca0 ga0 => ⟨_, rfl, ?_⟩)
    refine OS.read rfl (e_loadm ma0 ca0 rfl rfl (part_one rfl ga0)) rfl ?_
    refine yG ?_
    refine OS.call noGo rfl (fun _ => rfl) ((split_ct s hsl).mono ?_)
    rintro u L2 hg
    have hval := valueIs false 4 hg.wl hv
    refine ⟨_, rfl, ?_⟩
    refine OS.call noGo rfl (fun _ => rfl) ((hval).mono ?_)
    rintro u' L3 ⟨rfl, hL⟩
    rw [hL]
    clear hL
    refine yG ?_
    rcases hg with ⟨_, _, _, rfl⟩ | ⟨r9, _, _, rfl⟩
    · exact ⟨13 - (k + 1), by omega, k + 1, X, rfl, by omega, rfl, rfl⟩
    · exact ⟨13 - (k + 1), by omega, k + 1, _ :: X, rfl, by omega, rfl, rfl⟩
  clear hc hTX hT
  refine LS.exit ?_
  refine yG ?_
  generalize X ++ R0 = R1
  refine OS.call noGo rfl (fun _ => rfl) ((deep_ct 64 wNot [] (by decide)).mono ?_)
  rintro u M1 hg
  refine ⟨_, rfl, ?_⟩
  refine OS.call noGo rfl (fun _ => rfl) ((valueIs true 0 hg.wl (by decide +kernel)).mono ?_)
  rintro v' L2 ⟨rfl, hL⟩
  rw [hL]
  clear hL hg
  refine yG ?_
  refine OS.call noGo rfl (fun _ => rfl) ((deep_ct 65 wNot [] (by decide)).mono ?_)
  rintro u M2 hg
  refine ⟨_, rfl, ?_⟩
  refine OS.call noGo rfl (fun _ => rfl) ((valueIs false 65 hg.wl (by decide +kernel)).mono ?_)
  rintro v' L2 ⟨rfl, hL⟩
  rw [hL]
  clear hL hg
  refine yG ?_
  refine OS.call noGo rfl (fun _ => rfl) ((deep_ct 64 wOpen wClose (by decide)).mono ?_)
  rintro u M3 hg
  refine ⟨_, rfl, ?_⟩
  refine OS.call noGo rfl (fun _ => rfl) ((valueIs true 0 hg.wl (by decide +kernel)).mono ?_)
  rintro v' L2 ⟨rfl, hL⟩
  rw [hL]
  clear hL hg
  refine yG ?_
  refine OS.call noGo rfl (fun _ => rfl) ((deep_ct 65 wOpen wClose (by decide)).mono ?_)
  rintro u M4 hg
  refine ⟨_, rfl, ?_⟩
  refine OS.call noGo rfl (fun _ => rfl) ((valueIs false 65 hg.wl (by decide +kernel)).mono ?_)
  rintro v' L2 ⟨rfl, hL⟩
  rw [hL]
  clear hL hg
  refine yG ?_
  refine OS.call noGo rfl (fun _ => rfl) ((split_ct _ (by decide)).mono ?_)
  rintro u M5 hg
  refine ⟨_, rfl, ?_⟩
  refine OS.call noGo rfl (fun _ => rfl) ((valueIs true 0 hg.wl (by decide +kernel)).mono ?_)
  rintro v' L2 ⟨rfl, hL⟩
  rw [hL]
  clear hL hg
  refine yG ?_
  refine OS.call noGo rfl (fun _ => rfl) ((split_ct _ (by decide)).mono ?_)
  rintro u M6 hg
  refine ⟨_, rfl, ?_⟩
  refine OS.call noGo rfl (fun _ => rfl) ((valueIs false 0 hg.wl (by decide +kernel)).mono ?_)
  rintro v' L2 ⟨rfl, hL⟩
  rw [hL]
  clear hL hg
  refine yG ?_
  refine OS.fresh rfl (e_new (fun _ => rfl) rfl) (fun _ => rfl) (fun rz => ?_)
  refine OS.gen fun R2 hR2 => ?_
  have hz : Wd R2 (.slice (some ⟨rz, 0, none⟩) 3 3) [[], [61, 61], []] := by
    rw [hR2]
    exact .inr ⟨rz, 0, 3, _, _, rfl, List.mem_cons_self .., rfl, rfl, .inl ⟨by decide, by decide⟩⟩
  clear hR2
  refine yG ?_
  refine OS.call noGo rfl (fun _ => rfl) ((valueIs true 0 hz (by decide +kernel)).mono ?_)
  rintro v' L2 ⟨rfl, hL⟩
  rw [hL]
  clear hL hz
  have hn : SV 1 R2 (.slice none 0 0) 0 [] := .inl ⟨rfl, rfl, rfl⟩
  refine yG ?_
  refine OS.call noGo rfl (fun _ => rfl) ((nilEval_ct).mono ?_)
  rintro v' L2 ⟨rfl, hL⟩
  rw [hL]
  clear hL
  refine yG ?_
  refine OS.call noGo rfl (fun _ => rfl) ((nilWords_ct).mono ?_)
  rintro v' L2 ⟨rfl, hL⟩
  rw [hL]
  clear hL
  refine yG ?_
  refine OS.call noGo rfl (fun _ => rfl) ((nilTexts_ct).mono ?_)
  rintro v' L2 ⟨rfl, hL⟩
  rw [hL]
  clear hL
  refine yG ?_
  rfl
end Go.Proofs.Ytdacddkelagdnaa
