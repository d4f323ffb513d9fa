/- Layer 11: ExprValues's law. -/
import Derived.Test.YtdacddkelagdnaaEn
namespace Go.Proofs.Ytdacddkelagdnaa
open Go.Am
set_option linter.unusedVariables false
set_option maxRecDepth 20000
set_option maxHeartbeats 4000000
attribute [local irreducible] OS LSr ODS CS

theorem GT.pos {F L : RL} {v : Value} {T : List W} (g : GT F v T L) (h : 0 < T.length) : ∃ r, v = .slice (some ⟨r, 0, none⟩) T.length openCap ∧ L = (r, .cells 9 (strs T)) :: F := by
  rcases g with ⟨_, h0, _, _⟩ | ⟨r, h1, _, h2⟩
  · omega
  · exact ⟨r, h1, h2⟩
/-- Written over, up to a place. -/
def qs (T : List W) (k : Nat) : List Value := strs (List.replicate k [63] ++ T.drop k)
theorem qs_len {T : List W} {k : Nat} (h : k ≤ T.length) : (qs T k).length = T.length := by simp [qs, strs_len]; omega
theorem qs_zero (T : List W) : qs T 0 = strs T := by simp [qs]
theorem qs_lay {T : List W} {k : Nat} (h : k < T.length) : lay (qs T k) (0 + k * 1) [str [63]] = some (qs T (k + 1)) := by
  rw [Nat.zero_add, Nat.mul_one, lay_one (by rw [qs_len (by omega)]; exact h)]
  congr 1
  unfold qs strs
  rw [List.replicate_succ', List.append_assoc]
  apply List.ext_getElem?
  intro j
  rw [List.getElem?_set]
  simp only [List.getElem?_map, List.length_map]
  by_cases hj : k = j
  · subst hj
    rw [if_pos rfl]
    simp
    omega
  · rw [if_neg hj]
    congr 1
    rw [List.getElem?_append, List.getElem?_append]
    by_cases hjk : j < k
    · simp [hjk]
    · simp only [List.length_replicate, hjk, if_false]
      rw [List.getElem?_append]
      rw [if_neg (by simp; omega)]
      simp only [List.length_cons, List.length_nil, List.getElem?_drop]
      congr 1; omega
theorem valuesLaw_ct {L : RL} {v : Value} {n : Nat} {ws : List W} (hv0 : SV 1 L v n (strs ws)) (hn : n ≤ 9000000000000000) (hw : ∀ w ∈ ws, w.length ≤ 140737488355328) :
    CS Try.prog 4 [v] L fun u _ => u = .bool true := by
  obtain rfl : ws.length = n := by have := hv0.len; rw [strs_len] at this; omega
  have hv := hv0
  clear hv0
  refine CS.mk (fn := Try.f4) rfl rfl rfl rfl ?_
  refine yG ?_
  refine OS.call noGo rfl (fun _ => rfl) ((large_ct hv hn hw).mono ?_)
  rintro v' L2 ⟨b, rfl, hb, hL⟩
  rw [hL]
  clear hL
  rcases tf b with h1 | h1
  · rw [h1]
    refine yG ?_
    rfl
  have hf3 := hb h1
  have hf := hf3.fit
  have h3 := hf3.1
  rw [h1]
  refine yG ?_
  refine OS.fresh rfl (e_new (fun _ => rfl) rfl) (fun _ => rfl) (fun r0 => ?_)
  refine OS.opened 19 0 (sz := 1) rfl rfl rfl (by simp) (by decide) rfl ?_
  refine yG ?_
  refine OS.fresh rfl (e_appendSV 0 (sz := 1) (bts := 16) (old := []) hv.cons (strs_one ws) rfl rfl rfl (by omega) (by omega) rfl cut_zero rfl) (fun _ => rfl) (fun rI => ?_)
  rw [Nat.zero_add, List.nil_append]
  have hgI : GT L (.slice (some ⟨rI, 0, none⟩) ws.length openCap) ws ((rI, .cells 9 (strs ws)) :: L) := GV.of (by simp [strs_len])
  have hvI : SV 1 ((rI, .cells 9 (strs ws)) :: L) v ws.length (strs ws) := hv.cons
  have hpI := fun M (hM : ∀ p, p ∈ (rI, ARow.cells 9 (strs ws)) :: L → p ∈ M) => Parse_ct (hgI.wl.mono hM) (by omega : ws.length ≤ 1000000)
  have hVI := fun M (hM : ∀ p, p ∈ (rI, ARow.cells 9 (strs ws)) :: L → p ∈ M) => Value_ct (hgI.wl.mono hM) hf
  have hrI := refValue_ct hvI hf
  have hfit := fun x r h => parse_fit (x := x) (r := r) (w := ws) h hf
  have hsd := fun x r h => parse_sd (c := x) (r := r) (w := ws) h
  generalize parse ws = res at hpI hVI hrI hfit hsd
  refine yG ?_
  refine OS.call noGo rfl (fun _ => rfl) ((hrI).mono ?_)
  cases res with
  | err e =>
    rintro v' L2 ⟨rfl, he, hL⟩
    rw [hL]
    clear hL
    refine yG ?_
    refine OS.call noGo rfl (fun _ => rfl) ((hVI _ (fun _ h => h)).mono ?_)
    rintro v' L2 ⟨rfl, hL⟩
    rw [hL]
    clear hL
    refine yG ?_
    refine OS.call noGo rfl (fun _ => rfl) ((hpI _ (fun _ h => h)).mono ?_)
    rintro v' L2 ⟨rfl, _, hL⟩
    rw [hL]
    clear hL
    have ht := refTexts_ct hgI.sv hvI (by omega : ws.length ≤ 1000000)
    rw [decide_eq_true rfl] at ht
    rcases he with rfl | rfl
    · refine yG ?_
      refine OS.call noGo rfl (fun _ => rfl) ((ht).mono ?_)
      rintro v' L2 ⟨rfl, hL⟩
      refine yG ?_
      rfl
    · refine yG ?_
      refine OS.call noGo rfl (fun _ => rfl) ((ht).mono ?_)
      rintro v' L2 ⟨rfl, hL⟩
      refine yG ?_
      rfl
  | ok x r =>
    obtain ⟨hz, htx, hsm⟩ := hfit x r rfl
    have hsd := hsd x r rfl
    rintro v' L2 ⟨l, rfl, hgl⟩
    obtain ⟨rT, rfl, rfl⟩ := hgl.pos hsd.some
    refine yG ?_
    refine OS.call noGo rfl (fun _ => rfl) ((hVI _ (fun _ h => List.mem_cons_of_mem _ h)).mono ?_)
    rintro v' L2 ⟨rfl, hL⟩
    rw [hL]
    clear hL
    refine yG ?_
    refine OS.call noGo rfl (fun _ => rfl) ((hpI _ (fun _ h => List.mem_cons_of_mem _ h)).mono ?_)
    rintro v' L2 ⟨u, Y, rfl, rfl, hx⟩
    obtain ⟨rx, hu⟩ : ∃ rx, u = ptr rx := by obtain ⟨rx, _, _, _, _, _, _, h, _⟩ := hx; exact ⟨rx, h⟩
    subst hu
    have hM0 : ∀ p, p ∈ (rI, ARow.cells 9 (strs ws)) :: L → p ∈ Y ++ (rT, ARow.cells 9 (strs (tx .c x))) :: (rI, ARow.cells 9 (strs ws)) :: L := fun p hp => List.mem_append_right _ (List.mem_cons_of_mem _ hp)
    have ht := refTexts_ct (hgI.sv.mono hM0) (hvI.mono hM0) (by omega : ws.length ≤ 1000000)
    rw [decide_eq_true rfl] at ht
    have hperm : Sub ((rI, ARow.cells 9 (strs ws)) :: (Y ++ (rT, ARow.cells 9 (strs (tx .c x))) :: L)) (Y ++ (rT, ARow.cells 9 (strs (tx .c x))) :: (rI, ARow.cells 9 (strs ws)) :: L) :=
      ⟨[], by rw [List.append_nil]; exact ((List.Perm.swap _ _ L).append_left Y).trans List.perm_middle⟩
    obtain ⟨Z, hZ⟩ : ∃ Z, Z = Y ++ (rT, ARow.cells 9 (strs (tx .c x))) :: L := ⟨_, rfl⟩
    have hXZ : XV Z (ptr rx) ws x := hx.mono fun p hp => by rw [hZ]; exact List.mem_append_left _ hp
    have hTZ : SV 1 Z (.slice (some ⟨rT, 0, none⟩) (tx .c x).length openCap) (tx .c x).length (strs (tx .c x)) := SV.row (e := 9) (by rw [hZ]; simp) (by simp [strs_len])
    have hWZ : SV 1 Z v ws.length (strs ws) := hv.mono fun p hp => by rw [hZ]; exact List.mem_append_right _ (List.mem_cons_of_mem _ hp)
    rw [← hZ] at hperm
    generalize Y ++ (rT, ARow.cells 9 (strs (tx .c x))) :: (rI, ARow.cells 9 (strs ws)) :: L = M0 at ht hperm ⊢
    clear hZ hM0
    have hb : (!(ev .c x == ev .c x)) = false := by simp
    have hb2 : (ev .c x == ev .c x) = true := by simp
    simp only [valB, errN]
    refine yG ?_
    refine OS.call noGo rfl (fun _ => rfl) ((ht).mono ?_)
    rintro v' L2 ⟨rfl, hL⟩
    rw [hL]
    clear hL
    refine yG ?_
    refine LS.sub hperm ?_
    rw [← qs_zero ws]
    refine LS.loopJ [0, 3, 4, 5, 9, 11] (fun q a L' => ∃ k : Nat, q = ws.length - k ∧ k ≤ ws.length ∧ L' = (rI, ARow.cells 9 (qs ws k)) :: Z ∧ a = [v, .chan none, .chan none, .slice (some ⟨rI, 0, none⟩) ws.length openCap, .bool (ev .c x), .slice (some ⟨rT, 0, none⟩) (tx .c x).length openCap, .chan none, .chan none, .chan none, ptr rx, .chan none, .int .i64 (k : Nat), .chan none, .chan none, .chan none, .chan none, .chan none, .chan none, .chan none, .chan none, .chan none, .chan none, .chan none, .chan none, .chan none, .chan none, .chan none, .chan none, .chan none, .chan none, .chan none, .chan none, .chan none, .chan none, .chan none, .chan none, .chan none, .chan none, .chan none, .chan none, .chan none, .chan none, .chan none, .chan none, .chan none, .chan none, .chan none, .chan none, .chan none, .chan none, .chan none, .chan none, .chan none, .chan none, .chan none, .chan none, .chan none, .chan none, .chan none, .chan none, .chan none, .chan none, .chan none, .chan none, .chan none, .chan none, .chan none, .chan none, .chan none, .chan none, .chan none, .chan none, .chan none, .chan none, .chan none, .chan none, .chan none, .chan none, .chan none, .chan none, .chan none, .chan none, .chan none, .chan none, .chan none, .chan none, .chan none, .chan none, .chan none, .chan none, .chan none, .chan none, .chan none, .chan none, .chan none, .chan none, .chan none, .chan none, .chan none, .chan none, .chan none, .chan none, .chan none, .chan none, .chan none, .chan none, .chan none, .chan none, .chan none, .chan none, .chan none, .chan none, .chan none, .chan none, .chan none, .chan none, .chan none]) (n := ws.length) rfl ⟨0, rfl, by omega, rfl, rfl⟩ ?_
    rintro q a L' ⟨k, rfl, hk, rfl, rfl⟩
    have hsI : SV 1 ((rI, ARow.cells 9 (qs ws k)) :: Z) (.slice (some ⟨rI, 0, none⟩) ws.length openCap) ws.length (qs ws k) := SV.row (List.mem_cons_self ..) (by rw [qs_len hk]; omega)
    refine yG ?_
    repeat refine LS.seq ?_
    refine LS.cond rfl (fun hc => ?_) (fun hc => ?_)
    · have hc := lt_of hc
      refine LS.skip ?_
      repeat refine LS.seq ?_
      refine LS.block ?_
      refine yG ?_
      refine OS.pure rfl (e_index (j := k) (sz := 1) rfl rfl rfl rfl rfl (by omega)) rfl ?_
      refine OS.write rfl (e_store 0 (n := 1) rfl rfl rfl rfl rfl rfl (qs_lay (by omega)) rfl) rfl ?_
      refine yG ?_
      exact ⟨ws.length - (k + 1), by omega, k + 1, rfl, by omega, rfl, rfl⟩
    clear hc
    have hXZ := hXZ.mono fun p hp => List.mem_cons_of_mem (rI, ARow.cells 9 (qs ws k)) hp
    have hTZ := hTZ.mono fun p hp => List.mem_cons_of_mem (rI, ARow.cells 9 (qs ws k)) hp
    have hWZ := hWZ.mono fun p hp => List.mem_cons_of_mem (rI, ARow.cells 9 (qs ws k)) hp
    refine LS.exit ?_
    refine yG ?_
    generalize (rI, ARow.cells 9 (qs ws k)) :: Z = Z2 at hXZ hTZ hWZ ⊢
    refine LS.loopJ [0, 4, 5, 9, 12] (fun q a L' => ∃ (k : Nat) (M : RL), q = 2 - k ∧ k ≤ 2 ∧ L' = M ++ Z2 ∧ a = [v, .chan none, .chan none, .chan none, .bool (ev .c x), .slice (some ⟨rT, 0, none⟩) (tx .c x).length openCap, .chan none, .chan none, .chan none, ptr rx, .chan none, .chan none, .int .i64 (k : Nat), .chan none, .chan none, .chan none, .chan none, .chan none, .chan none, .chan none, .chan none, .chan none, .chan none, .chan none, .chan none, .chan none, .chan none, .chan none, .chan none, .chan none, .chan none, .chan none, .chan none, .chan none, .chan none, .chan none, .chan none, .chan none, .chan none, .chan none, .chan none, .chan none, .chan none, .chan none, .chan none, .chan none, .chan none, .chan none, .chan none, .chan none, .chan none, .chan none, .chan none, .chan none, .chan none, .chan none, .chan none, .chan none, .chan none, .chan none, .chan none, .chan none, .chan none, .chan none, .chan none, .chan none, .chan none, .chan none, .chan none, .chan none, .chan none, .chan none, .chan none, .chan none, .chan none, .chan none, .chan none, .chan none, .chan none, .chan none, .chan none, .chan none, .chan none, .chan none, .chan none, .chan none, .chan none, .chan none, .chan none, .chan none, .chan none, .chan none, .chan none, .chan none, .chan none, .chan none, .chan none, .chan none, .chan none, .chan none, .chan none, .chan none, .chan none, .chan none, .chan none, .chan none, .chan none, .chan none, .chan none, .chan none, .chan none, .chan none, .chan none, .chan none, .chan none, .chan none, .chan none]) (n := 2) rfl ⟨0, [], rfl, by omega, rfl, rfl⟩ ?_
    rintro q a L' ⟨k, M, rfl, hk, rfl, rfl⟩
    refine yG ?_
    repeat refine LS.seq ?_
    refine LS.cond rfl (fun hc => ?_) (fun hc => ?_)
    rotate_left
    · refine LS.exit ?_
      refine yG ?_
      rfl
    have hc := lt_of hc
    have hX1 := hXZ.mono fun p hp => List.mem_append_right M hp
    have hT1 := hTZ.mono fun p hp => List.mem_append_right M hp
    have hW1 := hWZ.mono fun p hp => List.mem_append_right M hp
    refine LS.skip ?_
    repeat refine LS.seq ?_
    refine LS.block ?_
    refine yG ?_
    refine OS.call noGo rfl (fun _ => rfl) ((Words_ct hX1 (by omega)).mono ?_)
    rintro v' L2 hga
    obtain ⟨ra, rfl, rfl⟩ := hga.pos (by have := hsd.lt3; omega)
    refine yG ?_
    refine OS.call noGo rfl (fun _ => rfl) ((Texts_ct (hX1.mono fun p hp => List.mem_cons_of_mem _ hp) hz htx).mono ?_)
    rintro v' L2 hgb
    obtain ⟨rb, rfl, rfl⟩ := hgb.pos hsd.some
    have hX2 := hX1.mono fun p hp => List.mem_cons_of_mem (rb, ARow.cells 9 (strs (tx .c x))) (List.mem_cons_of_mem (ra, ARow.cells 9 (strs ws)) hp)
    have hT2 := hT1.mono fun p hp => List.mem_cons_of_mem (rb, ARow.cells 9 (strs (tx .c x))) (List.mem_cons_of_mem (ra, ARow.cells 9 (strs ws)) hp)
    have hW2 := hW1.mono fun p hp => List.mem_cons_of_mem (rb, ARow.cells 9 (strs (tx .c x))) (List.mem_cons_of_mem (ra, ARow.cells 9 (strs ws)) hp)
    have ta := refTexts_ct hga.sv.cons hW2 (by omega : ws.length ≤ 1000000)
    have tb := refTexts_ct hgb.sv hT2 htx
    rw [decide_eq_true rfl] at ta tb
    refine yG ?_
    refine OS.call noGo rfl (fun _ => rfl) ((Eval_ct hX2 hz hsm).mono ?_)
    rintro v' L2 ⟨rfl, hL⟩
    rw [hL]
    clear hL
    refine yG ?_
    refine OS.call noGo rfl (fun _ => rfl) ((ta).mono ?_)
    rintro v' L2 ⟨rfl, hL⟩
    rw [hL]
    clear hL
    refine yG ?_
    refine OS.call noGo rfl (fun _ => rfl) ((tb).mono ?_)
    rintro v' L2 ⟨rfl, hL⟩
    rw [hL]
    clear hL
    refine yG ?_
    rw [← qs_zero ws]
    refine LS.loopJ [0, 4, 5, 9, 12, 13, 14, 15] (fun q a L' => ∃ j : Nat, q = ws.length - j ∧ j ≤ ws.length ∧ L' = (rb, ARow.cells 9 (strs (tx .c x))) :: (ra, ARow.cells 9 (qs ws j)) :: (M ++ Z2) ∧ a = [v, .chan none, .chan none, .chan none, .bool (ev .c x), .slice (some ⟨rT, 0, none⟩) (tx .c x).length openCap, .chan none, .chan none, .chan none, ptr rx, .chan none, .chan none, .int .i64 (k : Nat), .slice (some ⟨ra, 0, none⟩) ws.length openCap, .slice (some ⟨rb, 0, none⟩) (tx .c x).length openCap, .int .i64 (j : Nat), .chan none, .chan none, .chan none, .chan none, .chan none, .chan none, .chan none, .chan none, .chan none, .chan none, .chan none, .chan none, .chan none, .chan none, .chan none, .chan none, .chan none, .chan none, .chan none, .chan none, .chan none, .chan none, .chan none, .chan none, .chan none, .chan none, .chan none, .chan none, .chan none, .chan none, .chan none, .chan none, .chan none, .chan none, .chan none, .chan none, .chan none, .chan none, .chan none, .chan none, .chan none, .chan none, .chan none, .chan none, .chan none, .chan none, .chan none, .chan none, .chan none, .chan none, .chan none, .chan none, .chan none, .chan none, .chan none, .chan none, .chan none, .chan none, .chan none, .chan none, .chan none, .chan none, .chan none, .chan none, .chan none, .chan none, .chan none, .chan none, .chan none, .chan none, .chan none, .chan none, .chan none, .chan none, .chan none, .chan none, .chan none, .chan none, .chan none, .chan none, .chan none, .chan none, .chan none, .chan none, .chan none, .chan none, .chan none, .chan none, .chan none, .chan none, .chan none, .chan none, .chan none, .chan none, .chan none, .chan none, .chan none, .chan none, .chan none, .chan none, .chan none]) (n := ws.length) rfl ⟨0, rfl, by omega, rfl, rfl⟩ ?_
    rintro q a L' ⟨j, rfl, hj, rfl, rfl⟩
    have hsA : SV 1 ((rb, ARow.cells 9 (strs (tx .c x))) :: (ra, ARow.cells 9 (qs ws j)) :: (M ++ Z2)) (.slice (some ⟨ra, 0, none⟩) ws.length openCap) ws.length (qs ws j) := SV.row (e := 9) (by simp) (by rw [qs_len hj]; omega)
    refine yG ?_
    repeat refine LS.seq ?_
    refine LS.cond rfl (fun hd => ?_) (fun hd => ?_)
    · have hd := lt_of hd
      refine LS.skip ?_
      repeat refine LS.seq ?_
      refine LS.block ?_
      refine yG ?_
      refine OS.pure rfl (e_index (j := j) (sz := 1) rfl rfl rfl rfl rfl (by omega)) rfl ?_
      refine OS.write rfl (e_store 1 (n := 1) rfl rfl rfl rfl rfl rfl (qs_lay (by omega)) rfl) rfl ?_
      refine yG ?_
      exact ⟨ws.length - (j + 1), by omega, j + 1, rfl, by omega, rfl, rfl⟩
    clear hd
    refine LS.exit ?_
    refine yG ?_
    rw [← qs_zero (tx .c x)]
    refine LS.loopJ [0, 4, 5, 9, 12, 14, 16] (fun q a L' => ∃ i : Nat, q = (tx .c x).length - i ∧ i ≤ (tx .c x).length ∧ L' = (rb, ARow.cells 9 (qs (tx .c x) i)) :: (ra, ARow.cells 9 (qs ws j)) :: (M ++ Z2) ∧ a = [v, .chan none, .chan none, .chan none, .bool (ev .c x), .slice (some ⟨rT, 0, none⟩) (tx .c x).length openCap, .chan none, .chan none, .chan none, ptr rx, .chan none, .chan none, .int .i64 (k : Nat), .chan none, .slice (some ⟨rb, 0, none⟩) (tx .c x).length openCap, .chan none, .int .i64 (i : Nat), .chan none, .chan none, .chan none, .chan none, .chan none, .chan none, .chan none, .chan none, .chan none, .chan none, .chan none, .chan none, .chan none, .chan none, .chan none, .chan none, .chan none, .chan none, .chan none, .chan none, .chan none, .chan none, .chan none, .chan none, .chan none, .chan none, .chan none, .chan none, .chan none, .chan none, .chan none, .chan none, .chan none, .chan none, .chan none, .chan none, .chan none, .chan none, .chan none, .chan none, .chan none, .chan none, .chan none, .chan none, .chan none, .chan none, .chan none, .chan none, .chan none, .chan none, .chan none, .chan none, .chan none, .chan none, .chan none, .chan none, .chan none, .chan none, .chan none, .chan none, .chan none, .chan none, .chan none, .chan none, .chan none, .chan none, .chan none, .chan none, .chan none, .chan none, .chan none, .chan none, .chan none, .chan none, .chan none, .chan none, .chan none, .chan none, .chan none, .chan none, .chan none, .chan none, .chan none, .chan none, .chan none, .chan none, .chan none, .chan none, .chan none, .chan none, .chan none, .chan none, .chan none, .chan none, .chan none, .chan none, .chan none, .chan none, .chan none, .chan none]) (n := (tx .c x).length) rfl ⟨0, rfl, by omega, rfl, rfl⟩ ?_
    rintro q a L' ⟨i, rfl, hi, rfl, rfl⟩
    have hsB : SV 1 ((rb, ARow.cells 9 (qs (tx .c x) i)) :: (ra, ARow.cells 9 (qs ws j)) :: (M ++ Z2)) (.slice (some ⟨rb, 0, none⟩) (tx .c x).length openCap) (tx .c x).length (qs (tx .c x) i) := SV.row (List.mem_cons_self ..) (by rw [qs_len hi]; omega)
    refine yG ?_
    repeat refine LS.seq ?_
    refine LS.cond rfl (fun hd => ?_) (fun hd => ?_)
    · have hd := lt_of hd
      refine LS.skip ?_
      repeat refine LS.seq ?_
      refine LS.block ?_
      refine yG ?_
      refine OS.pure rfl (e_index (j := i) (sz := 1) rfl rfl rfl rfl rfl (by omega)) rfl ?_
      refine OS.write rfl (e_store 0 (n := 1) rfl rfl rfl rfl rfl rfl (qs_lay (by omega)) rfl) rfl ?_
      refine yG ?_
      exact ⟨(tx .c x).length - (i + 1), by omega, i + 1, rfl, by omega, rfl, rfl⟩
    clear hd
    refine LS.exit ?_
    refine yG ?_
    exact ⟨2 - (k + 1), by omega, k + 1, (rb, _) :: (ra, _) :: M, rfl, by omega, rfl, rfl⟩
end Go.Proofs.Ytdacddkelagdnaa
