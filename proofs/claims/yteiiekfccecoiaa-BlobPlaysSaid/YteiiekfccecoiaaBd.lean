/- Layer 8: a value's parts. -/
import Derived.Test.YteiiekfccecoiaaBc
namespace Go.Proofs.Yteiiekfccecoiaa
open Go.Am
set_option linter.unusedVariables false
set_option maxRecDepth 20000

abbrev txt (bs : List UInt8) : Value := .string ⟨⟨bs⟩⟩
/-- The value's parts, so many. -/
def ptsV (data : List UInt8) (i : Nat) : List Value := (List.range i).map fun k => txt (partB data k)
theorem ptsV_len (data : List UInt8) (i : Nat) : (ptsV data i).length = i := by simp [ptsV]
theorem ptsV_succ (data : List UInt8) (i : Nat) : ptsV data (i + 1) = ptsV data i ++ [txt (partB data i)] := by simp [ptsV, List.range_succ]
theorem ptsV_set (data : List UInt8) {i n : Nat} (h : i < n) : (ptsV data i ++ List.replicate (n - i) (txt [])).set i (txt (partB data i)) = ptsV data (i + 1) ++ List.replicate (n - (i + 1)) (txt []) := by
  rw [List.set_append_right _ _ (by rw [ptsV_len]; exact Nat.le_refl _), ptsV_len, Nat.sub_self, show n - i = (n - (i + 1)) + 1 by omega, List.replicate_succ, List.set_cons_zero, ptsV_succ]
  simp
theorem ptsV_void {data : List UInt8} {i : Nat} (h : data.length ≤ offB i) : ∀ m, ptsV data i ++ List.replicate m (txt []) = ptsV data (i + m)
  | 0 => by simp
  | m + 1 => by
    rw [List.replicate_succ', ← List.append_assoc, ptsV_void h m, show i + (m + 1) = (i + m) + 1 by omega, ptsV_succ, partB_void (Nat.le_trans h (offB_le (by omega)))]
theorem makeT_strs : makeT Try.prog 104 = some (9, 1, 16, [txt []]) := by kernel_rfl

theorem parts_ct {L : RL} (data : List UInt8) (n : Nat) (hd : data.length ≤ 100000000) (hn : n ≤ 1000000) : CS Try.prog 63 [txt data, .int .i64 (n : Nat)] L fun v L' => ∃ r, v = .slice (some ⟨r, 0, none⟩) n n ∧ L' = (r, .cells 9 (ptsV data n)) :: L := by
  refine CS.mk (fn := Try.f63) rfl rfl rfl rfl ?_
  repeat refine LS.seq ?_
  refine LS.region rfl ?_
  refine OS.pure rfl (fun _ => rfl) rfl ?_
  refine OS.nil ?_
  repeat refine LS.seq ?_
  refine LS.scope ?_
  repeat refine LS.seq ?_
  refine LS.region rfl ?_
  refine OS.pure rfl (fun _ => rfl) rfl ?_
  refine OS.fresh rfl (e_make (l := n) (c := n) rfl rfl rfl makeT_strs (Nat.le_refl _) (by omega) (by omega)) (fun _ => rfl) (fun r => ?_)
  rw [repL_one]
  refine OS.pure rfl (fun _ => rfl) rfl ?_
  refine OS.nil ?_
  refine LS.seq ?_
  refine LS.label ?_
  refine LS.seq ?_
  refine LS.mid [5] (fun a L' => L' = (r, .cells 9 (ptsV data n)) :: L ∧ a = [.chan none, .chan none, .chan none, .chan none, .chan none, .slice (some ⟨r, 0, none⟩) n n, .chan none, .chan none, .chan none, .chan none, .chan none, .chan none, .chan none, .chan none, .chan none, .chan none, .chan none, .chan none, .chan none, .chan none, .chan none, .chan none, .chan none, .chan none, .chan none, .chan none, .chan none, .chan none, .chan none, .chan none, .chan none, .chan none, .chan none, .chan none, .chan none, .chan none, .chan none, .chan none]) ?_ ?_
  · repeat refine LS.seq ?_
    refine LS.region rfl ?_
    refine OS.pure rfl (fun _ => rfl) rfl ?_
    refine OS.pure rfl (fun _ => rfl) rfl ?_
    refine OS.pure rfl (fun _ => rfl) rfl ?_
    refine OS.nil ?_
    repeat refine LS.seq ?_
    refine LS.block ?_
    refine LS.loopJ [0, 5, 11, 12] (fun q a L' => ∃ i, q = n - i ∧ i ≤ n ∧ L' = (r, .cells 9 (ptsV data i ++ List.replicate (n - i) (txt []))) :: L ∧
      a = [txt (data.drop (offB i)), .chan none, .chan none, .chan none, .chan none, .slice (some ⟨r, 0, none⟩) n n, .chan none, .chan none, .chan none, .chan none, .chan none, .int .i64 (n : Nat), .int .i64 (i : Nat), .chan none, .chan none, .chan none, .chan none, .chan none, .chan none, .chan none, .chan none, .chan none, .chan none, .chan none, .chan none, .chan none, .chan none, .chan none, .chan none, .chan none, .chan none, .chan none, .chan none, .chan none, .chan none, .chan none, .chan none, .chan none]) (n := n) rfl ⟨0, rfl, by omega, by simp [ptsV], rfl⟩ ?_
    rintro q a L' ⟨i, rfl, hi, rfl, rfl⟩
    repeat refine LS.seq ?_
    refine LS.region rfl ?_
    refine OS.pure rfl (fun _ => rfl) rfl ?_
    refine OS.nil ?_
    repeat refine LS.seq ?_
    refine LS.cond rfl (fun hc => ?_) (fun hc => ?_)
    · have hc : (i : Int) < n := lt_of hc
      have hin : i < n := by omega
      have hrl : (ptsV data i ++ List.replicate (n - i) (txt [])).length = n := by simp [ptsV_len]; omega
      have hd2 := dAt_cases i
      have hdl : (data.drop (offB i)).length = data.length - offB i := by simp
      refine LS.skip ?_
      repeat refine LS.seq ?_
      refine LS.block ?_
      repeat refine LS.seq ?_
      refine LS.region rfl ?_
      refine OS.pure rfl (fun _ => rfl) rfl ?_
      refine OS.pure rfl (fun _ => rfl) rfl ?_
      refine OS.nil ?_
      repeat refine LS.seq ?_
      refine LS.region rfl ?_
      refine OS.pure rfl (fun _ => rfl) rfl ?_
      refine OS.call noGo rfl (fun _ => rfl) ((dataAt_ct i).mono ?_)
      rintro v L' ⟨rfl, rfl⟩
      refine ⟨_, rfl, ?_⟩
      refine OS.pure rfl (e_is (e_sub (k := .i64) (m := 256) (n := ((dAt i : Nat) : Int)) rfl rfl rfl (in_i64 (by omega) (by omega))) (congrArg (Value.int .i64) (show (256 : Int) - ((dAt i : Nat) : Int) = ((256 - dAt i : Nat) : Int) by omega))) rfl ?_
      refine OS.pure rfl (fun _ => rfl) rfl ?_
      refine OS.nil ?_
      repeat refine LS.seq ?_
      refine LS.block ?_
      by_cases hle : data.length - offB i ≤ 256 - dAt i
      · have hb : ileB ((data.length - offB i : Nat) : Int) ((256 - dAt i : Nat) : Int) = true := ileB_iff.2 (by omega)
        have hp : partB data i = data.drop (offB i) := by unfold partB; rw [List.take_of_length_le (by omega)]
        repeat refine LS.seq ?_
        refine LS.region rfl ?_
        refine OS.pure rfl (fun _ => rfl) rfl ?_
        refine OS.pure rfl (e_is (fun _ => rfl) (congrArg (fun x : Nat => Value.int .i64 (x : Int)) hdl)) rfl ?_
        refine OS.pure rfl (fun _ => rfl) rfl ?_
        refine OS.pure rfl (e_is (fun _ => rfl) (congrArg Value.bool hb)) rfl ?_
        refine OS.pure rfl (fun _ => rfl) rfl ?_
        refine OS.nil ?_
        refine LS.cond rfl (fun hc => ?_) (fun hc => by cases hc)
        repeat refine LS.seq ?_
        refine LS.region rfl ?_
        refine OS.pure rfl (fun _ => rfl) rfl ?_
        refine OS.pure rfl (fun _ => rfl) rfl ?_
        refine OS.pure rfl (fun _ => rfl) rfl ?_
        refine OS.pure rfl (e_index (j := i) (sz := 1) rfl rfl rfl rfl rfl hin) rfl ?_
        rw [Nat.mul_one, Nat.zero_add, ← hp]
        refine OS.write rfl (e_store 0 (n := 1) rfl rfl rfl rfl rfl rfl (lay_one (by omega)) rfl) rfl ?_
        rw [ptsV_set data hin]
        refine OS.nil ?_
        refine LS.exit ?_
        refine ⟨?_, rfl⟩
        rw [ptsV_void (by rw [offB_succ]; omega), show i + 1 + (n - (i + 1)) = n by omega]
      · have hb : ileB ((data.length - offB i : Nat) : Int) ((256 - dAt i : Nat) : Int) = false := by rw [ileB_eq]; simp; omega
        repeat refine LS.seq ?_
        refine LS.region rfl ?_
        refine OS.pure rfl (fun _ => rfl) rfl ?_
        refine OS.pure rfl (e_is (fun _ => rfl) (congrArg (fun x : Nat => Value.int .i64 (x : Int)) hdl)) rfl ?_
        refine OS.pure rfl (fun _ => rfl) rfl ?_
        refine OS.pure rfl (e_is (fun _ => rfl) (congrArg Value.bool hb)) rfl ?_
        refine OS.pure rfl (fun _ => rfl) rfl ?_
        refine OS.nil ?_
        refine LS.cond rfl (fun hc => by cases hc) (fun hc => ?_)
        repeat refine LS.seq ?_
        refine LS.drawn noGo mixed [(0, false), (1, false), (2, false), (3, false), (4, false), (5, false), (6, false), (7, false), (8, false), (9, true), (10, false)] rfl rfl (by kernel_rfl) ?_
        refine ODS.pure rfl rfl (fun _ => rfl) rfl ?_
        refine ODS.pure rfl rfl (fun _ => rfl) rfl ?_
        refine ODS.pure rfl rfl (fun _ => rfl) rfl ?_
        refine ODS.pure rfl rfl (fun _ => rfl) rfl ?_
        refine ODS.pure rfl rfl (e_part (l := 0) (u := 256 - dAt i) rfl rfl rfl rfl rfl bound_nat rfl (by omega) (by omega)) rfl ?_
        refine ODS.pure rfl rfl (fun _ => rfl) rfl ?_
        refine ODS.pure rfl rfl (fun _ => rfl) rfl ?_
        refine ODS.pure rfl rfl (e_part (l := 256 - dAt i) (u := (data.drop (offB i)).length) rfl rfl rfl rfl bound_nat rfl rfl (by omega) (by omega)) rfl ?_
        refine ODS.pure rfl rfl (e_index (j := i) (sz := 1) rfl rfl rfl rfl rfl hin) rfl ?_
        have h1 : ((data.drop (offB i)).drop 0).take (256 - dAt i - 0) = partB data i := by rw [List.drop_zero, Nat.sub_zero]; rfl
        have h2 : ((data.drop (offB i)).drop (256 - dAt i)).take ((data.drop (offB i)).length - (256 - dAt i)) = data.drop (offB (i + 1)) := by
          rw [List.take_of_length_le (by simp; omega), List.drop_drop, offB_succ]
        rw [h1, h2, Nat.mul_one, Nat.zero_add]
        refine ODS.write rfl rfl (e_store 0 (n := 1) rfl rfl rfl rfl rfl rfl (lay_one (by omega)) rfl) rfl Keep.nil ?_
        rw [ptsV_set data hin]
        refine ODS.pure rfl rfl (fun _ => rfl) rfl ?_
        refine ODS.nil ?_
        repeat refine LS.seq ?_
        refine LS.region rfl ?_
        refine OS.pure rfl (e_add rfl rfl rfl (in_i64 (by omega) (by omega))) rfl ?_
        refine OS.pure rfl (fun _ => rfl) rfl ?_
        refine OS.nil ?_
        exact ⟨n - (i + 1), by omega, i + 1, rfl, by omega, rfl, rfl⟩
    have hc : (n : Int) ≤ i := nlt_of hc
    have hin : i = n := by omega
    subst hin
    refine LS.exit ?_
    exact ⟨by rw [Nat.sub_self]; simp, rfl⟩
  rintro a L' ⟨rfl, rfl⟩
  repeat refine LS.seq ?_
  refine LS.region rfl ?_
  refine OS.pure rfl (fun _ => rfl) rfl ?_
  refine OS.pure rfl (fun _ => rfl) rfl ?_
  refine OS.nil ?_
  refine LS.ret ⟨_, fun _ _ => rfl, ?_⟩
  exact ⟨r, rfl, rfl⟩
end Go.Proofs.Yteiiekfccecoiaa
