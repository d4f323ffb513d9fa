/- Layer 2: WordsNames's law. -/
import Derived.Test.YtdffhllecojgcaaDoorWy
namespace Go.Proofs.YtdffhllecojgcaaDoor
open Go.Am
set_option linter.unusedVariables false
set_option maxRecDepth 20000

abbrev badW : List (List UInt8) := [[97, 34, 98], [34, 97], [34, 97, 34, 98], [34, 92, 113, 34], [34, 92, 120, 52, 34], [34, 92, 120, 52, 71, 34], [1], [34, 9, 34], [97, 32, 10], [34, 92], [35, 32, 10]]
theorem bad_all : badW.all (fun w => errOf w == 4) = true := by kernel_rfl
theorem bad_at {j : Nat} {w : List UInt8} (h : badW[j]? = some w) : errOf w = 4 ∧ w.length ≤ 100 := by
  have hm : w ∈ badW := List.mem_of_getElem? h
  have h1 := List.all_eq_true.1 bad_all w hm
  refine ⟨by simpa using h1, ?_⟩
  have h2 : badW.all (fun w => decide (w.length ≤ 100)) = true := by kernel_rfl
  simpa using List.all_eq_true.1 h2 w hm
abbrev xs (n : Nat) : List UInt8 := List.replicate n 120
theorem xs_own : ownF (xs 400) = xs 400 := by
  have : ownP (xs 400) = true := by kernel_rfl
  simp [ownF, this]
theorem xs_join : joinW [xs 400] = some (xs 400) := by
  unfold joinW
  simp only [jn, if_true, List.nil_append, xs_own, List.length_replicate, Nat.le_refl]
theorem xs_join2 : joinW [xs 400, []] = none := by
  unfold joinW
  simp only [jn, if_true, List.nil_append, xs_own, List.length_replicate, Nat.le_refl, Bool.false_eq_true, if_false]
  rw [if_neg]
  have := ownF_len []
  simp
theorem zs_err : errOf (List.replicate 401 0) = 40 := by unfold errOf; rw [if_pos (by simp)]
theorem ln1_eq : linesV [120, 10, 10, 34, 97] = ([], 3, 4) := by kernel_rfl
theorem ln2_eq : linesV [97, 10, 10, 32, 98, 32, 35, 32, 99, 10] = ([(1, [[97]]), (3, [[98]])], 0, 0) := by kernel_rfl
theorem repL_u8 {n : Nat} {b : UInt8} : repL [Value.int .u8 (b.toNat : Nat)] n = byteCells (List.replicate n b) := by rw [repL_one]; simp [byteCells]
theorem namesLaw_ct {L : RL} : CS Tryd.prog 6 [] L fun v _ => v = .bool true := by
  obtain ⟨w1, w2⟩ := joined_words xs_join
  have j1 : joinV [xs 400] = .tuple #[str (xs 400), .int .i64 0] := by unfold joinV; rw [xs_join]
  have j2 : joinV [xs 400, []] = .tuple #[str [], .int .i64 40] := by unfold joinV; rw [xs_join2]
  have hbe : bytesEq (xs 400) (xs 400) = true := by rw [bytesEq_eq]; simp
  refine CS.mk (fn := Tryd.f6) rfl rfl rfl rfl ?_
  repeat refine LS.seq ?_
  refine LS.region rfl ?_
  refine OS.pure rfl (fun _ => rfl) rfl ?_
  refine OS.nil ?_
  repeat refine LS.seq ?_
  refine LS.region rfl ?_
  refine OS.fresh rfl (e_new (fun _ => rfl) rfl) (fun _ => rfl) (fun r21 => ?_)
  refine OS.pure rfl (fun _ => rfl) rfl ?_
  refine OS.pure rfl (fun _ => rfl) rfl ?_
  refine OS.nil ?_
  have sv0 : SV 1 ((r21, .cells 9 (strs badW)) :: L) (.slice (some ⟨r21, 0, none⟩) 11 11) 11 (strs badW) := SV.row (List.mem_cons_self ..) rfl
  repeat refine LS.seq ?_
  refine LS.mid [] (fun a L2 => L2 = (r21, .cells 9 (strs badW)) :: L ∧ a = [.chan none, .chan none, .chan none, .chan none, .chan none, .chan none, .chan none, .chan none, .chan none, .chan none, .chan none, .chan none, .chan none, .chan none, .chan none, .chan none, .chan none, .chan none, .chan none, .chan none, .chan none, .chan none, .chan none, .chan none, .chan none, .chan none, .chan none, .chan none, .chan none, .chan none, .chan none, .chan none, .chan none, .chan none, .chan none, .chan none, .chan none, .chan none, .chan none, .chan none, .chan none, .chan none, .chan none, .chan none, .chan none, .chan none, .chan none, .chan none, .chan none, .chan none, .chan none, .chan none, .chan none, .chan none, .chan none, .chan none, .chan none, .chan none, .chan none, .chan none, .chan none, .chan none, .chan none, .chan none, .chan none, .chan none, .chan none, .chan none, .chan none, .chan none, .chan none, .chan none, .chan none, .chan none, .chan none, .chan none, .chan none, .chan none, .chan none, .chan none, .chan none, .chan none, .chan none, .chan none, .chan none, .chan none, .chan none, .chan none, .chan none, .chan none, .chan none, .chan none, .chan none, .chan none, .chan none, .chan none, .chan none, .chan none, .chan none, .chan none, .chan none, .chan none, .chan none, .chan none, .chan none, .chan none, .chan none, .chan none, .chan none, .chan none, .chan none, .chan none, .chan none, .chan none, .chan none, .chan none, .chan none, .chan none, .chan none, .chan none, .chan none, .chan none, .chan none, .chan none, .chan none, .chan none, .chan none, .chan none, .chan none, .chan none, .chan none]) ?_ ?_
  · repeat refine LS.seq ?_
    refine LS.block ?_
    refine LS.loopJ [21, 22, 23] (fun q a L2 => ∃ j : Nat, q = 11 - j ∧ j ≤ 11 ∧ L2 = (r21, .cells 9 (strs badW)) :: L ∧ a = [.chan none, .chan none, .chan none, .chan none, .chan none, .chan none, .chan none, .chan none, .chan none, .chan none, .chan none, .chan none, .chan none, .chan none, .chan none, .chan none, .chan none, .chan none, .chan none, .chan none, .chan none, .slice (some ⟨r21, 0, none⟩) 11 11, .int .i64 11, .int .i64 (j : Nat), .chan none, .chan none, .chan none, .chan none, .chan none, .chan none, .chan none, .chan none, .chan none, .chan none, .chan none, .chan none, .chan none, .chan none, .chan none, .chan none, .chan none, .chan none, .chan none, .chan none, .chan none, .chan none, .chan none, .chan none, .chan none, .chan none, .chan none, .chan none, .chan none, .chan none, .chan none, .chan none, .chan none, .chan none, .chan none, .chan none, .chan none, .chan none, .chan none, .chan none, .chan none, .chan none, .chan none, .chan none, .chan none, .chan none, .chan none, .chan none, .chan none, .chan none, .chan none, .chan none, .chan none, .chan none, .chan none, .chan none, .chan none, .chan none, .chan none, .chan none, .chan none, .chan none, .chan none, .chan none, .chan none, .chan none, .chan none, .chan none, .chan none, .chan none, .chan none, .chan none, .chan none, .chan none, .chan none, .chan none, .chan none, .chan none, .chan none, .chan none, .chan none, .chan none, .chan none, .chan none, .chan none, .chan none, .chan none, .chan none, .chan none, .chan none, .chan none, .chan none, .chan none, .chan none, .chan none, .chan none, .chan none, .chan none, .chan none, .chan none, .chan none, .chan none, .chan none, .chan none, .chan none, .chan none, .chan none]) (n := 11) rfl ⟨0, rfl, by omega, rfl, rfl⟩ ?_
    rintro q a L2 ⟨j, rfl, hj, rfl, rfl⟩
    repeat refine LS.seq ?_
    refine LS.region rfl ?_
    refine OS.pure rfl (fun _ => rfl) rfl ?_
    refine OS.nil ?_
    repeat refine LS.seq ?_
    refine LS.cond rfl (fun hc => ?_) (fun hc => ?_)
    · have hc : (j : Int) < 11 := lt_of hc
      have hjl : j < badW.length := by show j < 11; omega
      have hget := strs_at hjl
      have hg := List.getElem?_eq_getElem hjl
      generalize badW[j] = w at hget hg
      obtain ⟨e4, el⟩ := bad_at hg
      refine LS.skip ?_
      repeat refine LS.seq ?_
      refine LS.block ?_
      repeat refine LS.seq ?_
      refine LS.region rfl ?_
      refine OS.at1 sv0 hget rfl rfl rfl rfl rfl rfl (fun r off row cs₀ m1 m2 m3 => ⟨_, rfl, ?_⟩)
      refine OS.read rfl (e_loadm m1 m2 rfl rfl (part_one rfl m3)) rfl ?_
      refine OS.pure rfl (fun _ => rfl) rfl ?_
      refine OS.nil ?_
      repeat refine LS.seq ?_
      refine LS.region rfl ?_
      refine OS.pure rfl (fun _ => rfl) rfl ?_
      refine OS.call noGo rfl (fun _ => rfl) ((Split_ct w (by omega)).mono ?_)
      rintro v L3 ⟨u, rfl, g⟩
      rw [e4]
      refine ⟨_, rfl, ?_⟩
      refine OS.pure rfl (fun _ => rfl) rfl ?_
      refine OS.pure rfl (fun _ => rfl) rfl ?_
      refine OS.pure rfl (fun _ => rfl) rfl ?_
      refine OS.pure rfl (fun _ => rfl) rfl ?_
      refine OS.pure rfl (fun _ => rfl) rfl ?_
      refine OS.nil ?_
      refine LS.sub (GV.less g) ?_
      repeat refine LS.seq ?_
      refine LS.region rfl ?_
      refine OS.pure rfl (fun _ => rfl) rfl ?_
      refine OS.pure rfl (fun _ => rfl) rfl ?_
      refine OS.nil ?_
      repeat refine LS.seq ?_
      refine LS.cond rfl (fun h => ?_) (fun h => ?_)
      · cases h
      refine LS.skip ?_
      repeat refine LS.seq ?_
      refine LS.region rfl ?_
      refine OS.pure rfl (e_add (m := (j : Int)) (n := 1) rfl rfl rfl (in_i64 (by omega) (by omega))) rfl ?_
      rw [show ((j : Nat) : Int) + 1 = ((j + 1 : Nat) : Int) by omega]
      refine OS.pure rfl (fun _ => rfl) rfl ?_
      refine OS.nil ?_
      exact ⟨11 - (j + 1), by omega, j + 1, rfl, by omega, rfl, rfl⟩
    · refine LS.exit ?_
      exact ⟨rfl, rfl⟩
  rintro a L2 ⟨rfl, rfl⟩
  refine LS.sub Sub.tail ?_
  repeat refine LS.seq ?_
  refine LS.region rfl ?_
  refine OS.fresh rfl (e_make (l := 401) (c := 401) (e := 5) (sz := 1) (bts := 1) (zs := [.int .u8 0]) rfl rfl rfl rfl (by omega) (by omega) (by omega)) (fun _ => rfl) (fun rz => ?_)
  rw [show ([Value.int .u8 0] : List Value) = [Value.int .u8 ((0 : UInt8).toNat : Nat)] from rfl, repL_u8]
  refine OS.read rfl (e_textSV (n := 401) (bs := List.replicate 401 0) (SV.row (e := 5) (r := rz) (List.mem_cons_self ..) (by rw [byteCells_len, List.length_replicate])) rfl rfl rfl rfl rfl) rfl ?_
  refine OS.sub (Sub.drop 0 rfl) ?_
  refine OS.call noGo rfl (fun _ => rfl) ((Split_ct (List.replicate 401 0) (by simp)).mono ?_)
  rintro v L3 ⟨u, rfl, g⟩
  rw [zs_err]
  refine ⟨_, rfl, ?_⟩
  refine OS.pure rfl (fun _ => rfl) rfl ?_
  refine OS.pure rfl (fun _ => rfl) rfl ?_
  refine OS.pure rfl (fun _ => rfl) rfl ?_
  refine OS.pure rfl (fun _ => rfl) rfl ?_
  refine OS.pure rfl (fun _ => rfl) rfl ?_
  refine OS.nil ?_
  refine LS.sub (GV.less g) ?_
  repeat refine LS.seq ?_
  refine LS.region rfl ?_
  refine OS.pure rfl (fun _ => rfl) rfl ?_
  refine OS.nil ?_
  repeat refine LS.seq ?_
  refine LS.region rfl ?_
  refine OS.pure rfl (fun _ => rfl) rfl ?_
  refine OS.nil ?_
  repeat refine LS.seq ?_
  refine LS.mid [6, 7] (fun a L2 => L2 = L ∧ a = [.chan none, .chan none, .chan none, .chan none, .chan none, .chan none, .int .i64 40, str (xs 400), .chan none, .chan none, .chan none, .chan none, .chan none, .chan none, .chan none, .chan none, .chan none, .chan none, .chan none, .chan none, .chan none, .chan none, .chan none, .chan none, .chan none, .chan none, .chan none, .chan none, .chan none, .chan none, .chan none, .chan none, .chan none, .chan none, .chan none, .chan none, .chan none, .chan none, .chan none, .chan none, .chan none, .chan none, .chan none, .chan none, .chan none, .chan none, .chan none, .chan none, .chan none, .chan none, .chan none, .chan none, .chan none, .chan none, .chan none, .chan none, .chan none, .chan none, .chan none, .chan none, .chan none, .chan none, .chan none, .chan none, .chan none, .chan none, .chan none, .chan none, .chan none, .chan none, .chan none, .chan none, .chan none, .chan none, .chan none, .chan none, .chan none, .chan none, .chan none, .chan none, .chan none, .chan none, .chan none, .chan none, .chan none, .chan none, .chan none, .chan none, .chan none, .chan none, .chan none, .chan none, .chan none, .chan none, .chan none, .chan none, .chan none, .chan none, .chan none, .chan none, .chan none, .chan none, .chan none, .chan none, .chan none, .chan none, .chan none, .chan none, .chan none, .chan none, .chan none, .chan none, .chan none, .chan none, .chan none, .chan none, .chan none, .chan none, .chan none, .chan none, .chan none, .chan none, .chan none, .chan none, .chan none, .chan none, .chan none, .chan none, .chan none, .chan none, .chan none]) ?_ ?_
  · repeat refine LS.seq ?_
    refine LS.block ?_
    refine LS.loopJ [6, 7, 8] (fun q a L2 => ∃ j : Nat, q = 400 - j ∧ j ≤ 400 ∧ L2 = L ∧ a = [.chan none, .chan none, .chan none, .chan none, .chan none, .chan none, .int .i64 40, str (xs j), .int .i64 (j : Nat), .chan none, .chan none, .chan none, .chan none, .chan none, .chan none, .chan none, .chan none, .chan none, .chan none, .chan none, .chan none, .chan none, .chan none, .chan none, .chan none, .chan none, .chan none, .chan none, .chan none, .chan none, .chan none, .chan none, .chan none, .chan none, .chan none, .chan none, .chan none, .chan none, .chan none, .chan none, .chan none, .chan none, .chan none, .chan none, .chan none, .chan none, .chan none, .chan none, .chan none, .chan none, .chan none, .chan none, .chan none, .chan none, .chan none, .chan none, .chan none, .chan none, .chan none, .chan none, .chan none, .chan none, .chan none, .chan none, .chan none, .chan none, .chan none, .chan none, .chan none, .chan none, .chan none, .chan none, .chan none, .chan none, .chan none, .chan none, .chan none, .chan none, .chan none, .chan none, .chan none, .chan none, .chan none, .chan none, .chan none, .chan none, .chan none, .chan none, .chan none, .chan none, .chan none, .chan none, .chan none, .chan none, .chan none, .chan none, .chan none, .chan none, .chan none, .chan none, .chan none, .chan none, .chan none, .chan none, .chan none, .chan none, .chan none, .chan none, .chan none, .chan none, .chan none, .chan none, .chan none, .chan none, .chan none, .chan none, .chan none, .chan none, .chan none, .chan none, .chan none, .chan none, .chan none, .chan none, .chan none, .chan none, .chan none, .chan none, .chan none, .chan none, .chan none]) (n := 400) rfl ⟨0, rfl, by omega, rfl, rfl⟩ ?_
    rintro q a L2 ⟨j, rfl, hj, rfl, rfl⟩
    repeat refine LS.seq ?_
    refine LS.region rfl ?_
    refine OS.pure rfl (fun _ => rfl) rfl ?_
    refine OS.pure rfl (fun _ => rfl) rfl ?_
    refine OS.nil ?_
    repeat refine LS.seq ?_
    refine LS.cond rfl (fun hc => ?_) (fun hc => ?_)
    · have hc : (j : Int) < 400 := lt_of hc
      refine LS.skip ?_
      repeat refine LS.seq ?_
      refine LS.block ?_
      repeat refine LS.seq ?_
      refine LS.region rfl ?_
      refine OS.pure rfl (fun _ => rfl) rfl ?_
      refine OS.pure rfl (e_cat (xs := xs j) (ys := [120]) rfl rfl rfl (by simp; omega)) rfl ?_
      rw [show xs j ++ [120] = xs (j + 1) by rw [xs, xs, List.replicate_succ']]
      refine OS.pure rfl (fun _ => rfl) rfl ?_
      refine OS.nil ?_
      repeat refine LS.seq ?_
      refine LS.region rfl ?_
      refine OS.pure rfl (fun _ => rfl) rfl ?_
      refine OS.pure rfl (e_add (m := (j : Int)) (n := 1) rfl rfl rfl (in_i64 (by omega) (by omega))) rfl ?_
      rw [show ((j : Nat) : Int) + 1 = ((j + 1 : Nat) : Int) by omega]
      refine OS.pure rfl (fun _ => rfl) rfl ?_
      refine OS.nil ?_
      exact ⟨400 - (j + 1), by omega, j + 1, rfl, by omega, rfl, rfl⟩
    · have hc : (400 : Int) ≤ j := nlt_of hc
      obtain rfl : j = 400 := by omega
      refine LS.exit ?_
      exact ⟨rfl, rfl⟩
  rintro a L2 ⟨rfl, rfl⟩
  generalize hxs : xs 400 = x at *
  have hxl : x.length = 400 := by rw [← hxs]; simp
  repeat refine LS.seq ?_
  refine LS.region rfl ?_
  refine OS.pure rfl (fun _ => rfl) rfl ?_
  refine OS.call noGo rfl (fun _ => rfl) ((Split_ct x (by omega)).mono ?_)
  rintro v L3 ⟨u9, rfl, g9⟩
  rw [w1] at g9
  rw [w2]
  refine ⟨_, rfl, ?_⟩
  refine OS.pure rfl (fun _ => rfl) rfl ?_
  refine OS.pure rfl (fun _ => rfl) rfl ?_
  refine OS.pure rfl (fun _ => rfl) rfl ?_
  refine OS.pure rfl (fun _ => rfl) rfl ?_
  refine OS.pure rfl (fun _ => rfl) rfl ?_
  refine OS.nil ?_
  repeat refine LS.seq ?_
  refine LS.region rfl ?_
  refine OS.pure rfl (fun _ => rfl) rfl ?_
  refine OS.fresh rfl (e_new (fun _ => rfl) rfl) (fun _ => rfl) (fun r54 => ?_)
  refine OS.call noGo rfl (fun _ => rfl) ((Join_ct (ws := [x]) (SV.row (e := 9) (r := r54) (List.mem_cons_self ..) rfl) (by simp) (by intro w hw; rw [List.mem_singleton] at hw; subst hw; omega)).mono ?_)
  rintro v L4 ⟨rfl, rfl⟩
  rw [j1]
  refine ⟨_, rfl, ?_⟩
  refine OS.pure rfl (fun _ => rfl) rfl ?_
  refine OS.pure rfl (fun _ => rfl) rfl ?_
  refine OS.pure rfl (fun _ => rfl) rfl ?_
  refine OS.pure rfl (fun _ => rfl) rfl ?_
  refine OS.pure rfl (fun _ => rfl) rfl ?_
  refine OS.nil ?_
  repeat refine LS.seq ?_
  refine LS.region rfl ?_
  refine OS.pure rfl (fun _ => rfl) rfl ?_
  refine OS.fresh rfl (e_new (fun _ => rfl) rfl) (fun _ => rfl) (fun r60 => ?_)
  refine OS.call noGo rfl (fun _ => rfl) ((Join_ct (ws := [x, []]) (SV.row (e := 9) (r := r60) (List.mem_cons_self ..) rfl) (by simp) (by intro w hw; simp only [List.mem_cons, List.not_mem_nil, or_false] at hw; rcases hw with rfl | rfl <;> first | omega | simp)).mono ?_)
  rintro v L5 ⟨rfl, rfl⟩
  rw [j2]
  refine ⟨_, rfl, ?_⟩
  refine OS.pure rfl (fun _ => rfl) rfl ?_
  refine OS.pure rfl (fun _ => rfl) rfl ?_
  refine OS.pure rfl (fun _ => rfl) rfl ?_
  refine OS.pure rfl (fun _ => rfl) rfl ?_
  refine OS.pure rfl (fun _ => rfl) rfl ?_
  refine OS.nil ?_
  repeat refine LS.seq ?_
  refine LS.region rfl ?_
  refine OS.call noGo rfl (fun _ => rfl) ((Lines_ct [120, 10, 10, 34, 97] (by decide)).mono ?_)
  rintro v L6 ⟨lv1, cs1, rfl, _, _, hm1⟩
  rw [ln1_eq]
  refine ⟨_, rfl, ?_⟩
  refine OS.pure rfl (fun _ => rfl) rfl ?_
  refine OS.pure rfl (fun _ => rfl) rfl ?_
  refine OS.pure rfl (fun _ => rfl) rfl ?_
  refine OS.pure rfl (fun _ => rfl) rfl ?_
  refine OS.pure rfl (fun _ => rfl) rfl ?_
  refine OS.pure rfl (fun _ => rfl) rfl ?_
  refine OS.pure rfl (fun _ => rfl) rfl ?_
  refine OS.nil ?_
  repeat refine LS.seq ?_
  refine LS.region rfl ?_
  refine OS.call noGo rfl (fun _ => rfl) ((Lines_ct [97, 10, 10, 32, 98, 32, 35, 32, 99, 10] (by decide)).mono ?_)
  rintro v L7 ⟨lv, cs, rfl, sl, ln, hm2⟩
  rw [ln2_eq] at sl ln
  rw [ln2_eq]
  refine ⟨_, rfl, ?_⟩
  refine OS.pure rfl (fun _ => rfl) rfl ?_
  refine OS.pure rfl (fun _ => rfl) rfl ?_
  refine OS.pure rfl (fun _ => rfl) rfl ?_
  refine OS.pure rfl (fun _ => rfl) rfl ?_
  refine OS.pure rfl (fun _ => rfl) rfl ?_
  refine OS.pure rfl (fun _ => rfl) rfl ?_
  refine OS.pure rfl (fun _ => rfl) rfl ?_
  refine OS.nil ?_
  obtain ⟨u2, y1, y2, y3⟩ := ln.at (j := 1) (p := (3, [[98]])) rfl
  have s9 : SV 1 L7 u9 1 (strs [x]) := g9.sv.mono fun p hp => hm2 _ (hm1 _ (List.mem_cons_of_mem _ (List.mem_cons_of_mem _ hp)))
  repeat refine LS.seq ?_
  refine LS.region rfl ?_
  refine OS.pure rfl (fun _ => rfl) rfl ?_
  refine OS.pure rfl (fun _ => rfl) rfl ?_
  refine OS.pure rfl (fun _ => rfl) rfl ?_
  refine OS.pure rfl (fun _ => rfl) rfl ?_
  refine OS.pure rfl (fun _ => rfl) rfl ?_
  refine OS.pure rfl (fun _ => rfl) rfl ?_
  refine OS.pure rfl (fun _ => rfl) rfl ?_
  refine OS.pure rfl (fun _ => rfl) rfl ?_
  refine OS.pure rfl (e_len s9 rfl rfl rfl rfl rfl) rfl ?_
  refine OS.pure rfl (fun _ => rfl) rfl ?_
  refine OS.pure rfl (fun _ => rfl) rfl ?_
  refine OS.pure rfl (fun _ => rfl) rfl ?_
  refine OS.pure rfl (fun _ => rfl) rfl ?_
  refine OS.pure rfl (fun _ => rfl) rfl ?_
  refine OS.pure rfl (e_is (fun _ => rfl) (congrArg Value.bool hbe)) rfl ?_
  refine OS.pure rfl (fun _ => rfl) rfl ?_
  refine OS.pure rfl (fun _ => rfl) rfl ?_
  refine OS.pure rfl (fun _ => rfl) rfl ?_
  refine OS.pure rfl (fun _ => rfl) rfl ?_
  refine OS.pure rfl (fun _ => rfl) rfl ?_
  refine OS.pure rfl (fun _ => rfl) rfl ?_
  refine OS.pure rfl (fun _ => rfl) rfl ?_
  refine OS.pure rfl (fun _ => rfl) rfl ?_
  refine OS.pure rfl (fun _ => rfl) rfl ?_
  refine OS.pure rfl (fun _ => rfl) rfl ?_
  refine OS.pure rfl (fun _ => rfl) rfl ?_
  refine OS.pure rfl (fun _ => rfl) rfl ?_
  refine OS.pure rfl (fun _ => rfl) rfl ?_
  refine OS.pure rfl (fun _ => rfl) rfl ?_
  refine OS.pure rfl (fun _ => rfl) rfl ?_
  refine OS.pure rfl (fun _ => rfl) rfl ?_
  refine OS.pure rfl (fun _ => rfl) rfl ?_
  refine OS.pure rfl (fun _ => rfl) rfl ?_
  refine OS.pure rfl (fun _ => rfl) rfl ?_
  refine OS.pure rfl (fun _ => rfl) rfl ?_
  refine OS.pure rfl (fun _ => rfl) rfl ?_
  refine OS.pure rfl (fun _ => rfl) rfl ?_
  refine OS.pure rfl (fun _ => rfl) rfl ?_
  refine OS.pure rfl (fun _ => rfl) rfl ?_
  refine OS.pure rfl (fun _ => rfl) rfl ?_
  refine OS.pure rfl (fun _ => rfl) rfl ?_
  refine OS.pure rfl (fun _ => rfl) rfl ?_
  refine OS.pure rfl (e_len sl rfl rfl rfl rfl rfl) rfl ?_
  refine OS.pure rfl (fun _ => rfl) rfl ?_
  refine OS.pure rfl (fun _ => rfl) rfl ?_
  refine OS.pure rfl (fun _ => rfl) rfl ?_
  refine OS.pure rfl (fun _ => rfl) rfl ?_
  refine OS.at (j := 1) sl (Nat.lt_succ_self 1) rfl rfl rfl rfl rfl rfl (fun r0 o0 row0 cs0 m0 c0 q0 _ => ?_)
  refine ⟨_, rfl, ?_⟩
  refine OS.pure rfl (fun _ => rfl) rfl ?_
  refine OS.read rfl (e_loadm m0 c0 rfl rfl (part_one rfl (q0 0 _ (by omega) y1))) rfl ?_
  refine OS.pure rfl (fun _ => rfl) rfl ?_
  refine OS.pure rfl (fun _ => rfl) rfl ?_
  refine OS.pure rfl (fun _ => rfl) rfl ?_
  refine OS.pure rfl (fun _ => rfl) rfl ?_
  refine OS.pure rfl (fun _ => rfl) rfl ?_
  refine OS.call noGo rfl (fun _ => rfl) ((awake_ct).mono ?_)
  rintro v' L8 rfl
  refine ⟨_, rfl, ?_⟩
  refine OS.pure rfl (fun _ => rfl) rfl ?_
  refine OS.pure rfl (fun _ => rfl) rfl ?_
  refine OS.nil ?_
  refine LS.ret ⟨_, fun _ _ => rfl, ?_⟩
  rfl
end Go.Proofs.YtdffhllecojgcaaDoor
