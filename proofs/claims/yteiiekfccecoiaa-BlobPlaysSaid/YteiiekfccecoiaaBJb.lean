/- Layer 4: what the head of a group is. -/
import Derived.Test.YteiiekfccecoiaaBJa
namespace Go.Proofs.Yteiiekfccecoiaa
open Go.Am
set_option linter.unusedVariables false
set_option maxRecDepth 20000

theorem lay_u8 {cs : List UInt8} {j : Nat} (c : UInt8) (hj : j < cs.length) : lay (byteCells cs) (0 + j * 1) [.int .u8 (c.toNat : Nat)] = some (byteCells (cs.set j c)) := by
  rw [show 0 + j * 1 = j by omega, lay_one (by rw [byteCells_len]; exact hj)]
  simp [byteCells, List.map_set]
theorem pair_ok {L : RL} {sz n : Nat} {v : Value} {cs : List Value} {b : Int} (h : SV sz L v n cs) : (Nat.beq (Value.agg ⟨[(Value.int .i64 b, v).1, (Value.int .i64 b, v).2]⟩).cells.toList.length 2 && allOne (Value.agg ⟨[(Value.int .i64 b, v).1, (Value.int .i64 b, v).2]⟩).cells.toList) = true := by
  rcases h with ⟨rfl, _⟩ | ⟨r, off, cap, row, cs₀, rfl, _⟩ <;> rfl
theorem bd_len {gs : List Gw} : (bd gs).length = gs.length := by simp [bd]

set_option maxHeartbeats 1000000 in
theorem headOf_ct {L : RL} {l : Value} {n : Nat} {gs : List Gw} (hl : SV 2 L l n (gcells gs)) (hd : Reads L gs) (h256 : ∀ g ∈ gs, g.d.length ≤ 1000000) (hn : n ≤ 120) : CS Try.prog 59 [l] L fun v L' => ∃ r, v = .slice (some ⟨r, 0, none⟩) 256 256 ∧ L' = (r, .cells 5 (byteCells (headB (bd gs)))) :: L := by
  have hlen := gs_len hl
  have hbl : (bd gs).length = n := by rw [bd_len]; exact hlen
  refine CS.mk (fn := Try.f59) rfl rfl rfl rfl ?_
  repeat refine LS.seq ?_
  refine LS.region rfl ?_
  refine OS.pure rfl (fun _ => rfl) rfl ?_
  refine OS.nil ?_
  repeat refine LS.seq ?_
  refine LS.region rfl ?_
  refine OS.fresh rfl (e_make (l := 256) (c := 256) rfl rfl rfl makeT_bytes (Nat.le_refl _) (by omega) (by omega)) (fun _ => rfl) (fun rh => ?_)
  rw [repL_u8]
  refine OS.pure rfl (fun _ => rfl) rfl ?_
  refine OS.nil ?_
  repeat refine LS.seq ?_
  refine LS.region rfl ?_
  refine OS.pure rfl (fun _ => rfl) rfl ?_
  refine OS.pure rfl (fun _ => rfl) rfl ?_
  refine OS.pure rfl (e_len hl rfl rfl rfl rfl rfl) rfl ?_
  refine OS.pure rfl (e_conv8 rfl rfl rfl rfl) rfl ?_
  refine OS.pure rfl (fun _ => rfl) rfl ?_
  refine OS.write rfl (e_store 0 (n := 1) rfl rfl rfl rfl rfl rfl (lay_u8 (cs := List.replicate 256 0) (j := 8) _ (by simp)) rfl) rfl ?_
  refine OS.nil ?_
  repeat refine LS.seq ?_
  refine LS.region rfl ?_
  refine OS.pure rfl (fun _ => rfl) rfl ?_
  refine OS.pure rfl (e_len hl rfl rfl rfl rfl rfl) rfl ?_
  refine OS.pure rfl (fun _ => rfl) rfl ?_
  refine OS.nil ?_
  repeat refine LS.seq ?_
  refine LS.block ?_
  refine LS.loopJ [0, 3, 18, 19, 20] (fun q a L' => ∃ i, q = n - i ∧ i ≤ n ∧ L' = (rh, .cells 5 (byteCells (placesN (bd gs) ((List.replicate 256 0).set 8 (u8of n)) i))) :: L ∧
    a = [l, .chan none, .chan none, .slice (some ⟨rh, 0, none⟩) 256 256, .chan none, .chan none, .chan none, .chan none, .chan none, .chan none, .chan none, .chan none, .chan none, .chan none, .chan none, .chan none, .chan none, .chan none, l, .int .i64 (n : Nat), .int .i64 (i : Nat), .chan none, .chan none, .chan none, .chan none, .chan none, .chan none, .chan none, .chan none, .chan none, .chan none, .chan none, .chan none, .chan none, .chan none, .chan none, .chan none, .chan none, .chan none, .chan none, .chan none, .chan none, .chan none, .chan none, .chan none, .chan none, .chan none, .chan none, .chan none, .chan none, .chan none, .chan none, .chan none, .chan none, .chan none, .chan none, .chan none, .chan none, .chan none, .chan none, .chan none, .chan none, .chan none, .chan none, .chan none, .chan none, .chan none, .chan none, .chan none, .chan none, .chan none, .chan none]) (n := n) rfl ⟨0, rfl, by omega, rfl, rfl⟩ ?_
  rintro q a L' ⟨i, rfl, hi, rfl, rfl⟩
  have hpl : (placesN (bd gs) ((List.replicate 256 0).set 8 (u8of n)) i).length = 256 := by rw [placesN_len]; simp
  repeat refine LS.seq ?_
  refine LS.region rfl ?_
  refine OS.pure rfl (fun _ => rfl) rfl ?_
  refine OS.nil ?_
  repeat refine LS.seq ?_
  refine LS.cond rfl (fun hc => ?_) (fun hc => ?_)
  · have hc : (i : Int) < n := lt_of hc
    have hin : i < n := by omega
    have hg : gs[i]? = some gs[i] := List.getElem?_eq_getElem (by omega)
    have hmem : gs[i] ∈ gs := List.getElem_mem (by omega)
    generalize gs[i] = g at hg hmem
    obtain ⟨m, hgv⟩ := hd g hmem
    have hstep : placesN (bd gs) ((List.replicate 256 0).set 8 (u8of n)) (i + 1) = ((placesN (bd gs) ((List.replicate 256 0).set 8 (u8of n)) i).set (9 + 2 * i) (u8of g.b)).set (10 + 2 * i) (u8of (g.b.fdiv 256)) := by
      simp only [placesN, bd_get hg]
    generalize placesN (bd gs) ((List.replicate 256 0).set 8 (u8of n)) i = hs at hpl hstep
    refine LS.skip ?_
    repeat refine LS.seq ?_
    refine LS.block ?_
    repeat refine LS.seq ?_
    refine LS.region rfl ?_
    refine OS.pure rfl (fun _ => rfl) rfl ?_
    refine OS.at (j := i) hl.cons hin rfl rfl rfl rfl rfl rfl (fun r0 o0 row0 cs0 m0 c0 g0 k0 => ?_)
    refine ⟨_, rfl, ?_⟩
    refine OS.read rfl (e_loadm m0 c0 rfl rfl (part_agg rfl rfl (k0 _ (pc_cut (gp_get hg))))) rfl ?_
    refine OS.fresh rfl (e_new (fun _ => rfl) rfl) (fun _ => rfl) (fun rw => ?_)
    refine OS.pure rfl (fun _ => rfl) rfl ?_
    refine OS.write rfl (e_store 0 rfl rfl rfl rfl rfl (pair_ok hgv) rfl rfl) rfl ?_
    refine OS.nil ?_
    repeat refine LS.seq ?_
    refine LS.region rfl ?_
    refine OS.pure rfl (fun _ => rfl) rfl ?_
    refine OS.pure rfl (e_is (e_mul (k := .i64) (m := ((i : Nat) : Int)) (n := 2) rfl rfl rfl (in_i64 (by omega) (by omega))) (congrArg (Value.int .i64) (show ((i : Nat) : Int) * 2 = ((2 * i : Nat) : Int) by omega))) rfl ?_
    refine OS.pure rfl (e_is (e_add (k := .i64) (m := 9) (n := ((2 * i : Nat) : Int)) rfl rfl rfl (in_i64 (by omega) (by omega))) (congrArg (Value.int .i64) (show (9 : Int) + ((2 * i : Nat) : Int) = ((9 + 2 * i : Nat) : Int) by omega))) rfl ?_
    refine OS.pure rfl (fun _ => rfl) rfl ?_
    refine OS.nil ?_
    repeat refine LS.seq ?_
    refine LS.drawn noGo mixed [(0, false), (1, false), (2, false), (3, false), (4, false), (5, false), (6, false), (7, false), (8, false), (9, false), (10, false), (11, false), (12, false), (13, true), (14, false), (15, true)] rfl rfl (by kernel_rfl) ?_
    refine ODS.pure rfl rfl (fun _ => rfl) rfl ?_
    refine ODS.pure rfl rfl (fun _ => rfl) rfl ?_
    refine ODS.pure rfl rfl (fun _ => rfl) rfl ?_
    refine ODS.pure rfl rfl (fun _ => rfl) rfl ?_
    refine ODS.pure rfl rfl (e_is (e_add (k := .i64) (m := ((9 + 2 * i : Nat) : Int)) (n := 1) rfl rfl rfl (in_i64 (by omega) (by omega))) (congrArg (Value.int .i64) (show ((9 + 2 * i : Nat) : Int) + 1 = ((10 + 2 * i : Nat) : Int) by omega))) rfl ?_
    refine ODS.pure rfl rfl (fun _ => rfl) rfl ?_
    refine ODS.read rfl rfl (e_load 0 rfl rfl rfl rfl rfl) rfl ?_
    refine ODS.pure rfl rfl (e_conv8 rfl rfl rfl rfl) rfl ?_
    refine ODS.pure rfl rfl (fun _ => rfl) rfl ?_
    refine ODS.read rfl rfl (e_load 0 rfl rfl rfl rfl rfl) rfl ?_
    refine ODS.pure rfl rfl (e_shrI (n := 8) rfl rfl rfl) rfl ?_
    refine ODS.pure rfl rfl (e_conv8 rfl rfl rfl rfl) rfl ?_
    refine ODS.pure rfl rfl (e_index (j := 9 + 2 * i) (sz := 1) rfl rfl rfl rfl rfl (by omega)) rfl ?_
    refine ODS.write rfl rfl (e_store 1 (n := 1) rfl rfl rfl rfl rfl rfl (lay_u8 (cs := hs) (j := 9 + 2 * i) _ (by omega)) rfl) rfl (Keep.cons rfl (e_load 0 rfl rfl rfl rfl rfl) (Keep.gone rfl Keep.nil)) ?_
    refine ODS.pure rfl rfl (e_index (j := 10 + 2 * i) (sz := 1) rfl rfl rfl rfl rfl (by omega)) rfl ?_
    refine ODS.write rfl rfl (e_store 1 (n := 1) rfl rfl rfl rfl rfl rfl (lay_u8 (cs := hs.set (9 + 2 * i) (u8of g.b)) (j := 10 + 2 * i) _ (by rw [List.length_set]; omega)) rfl) rfl (Keep.gone rfl (Keep.gone rfl Keep.nil)) ?_
    refine ODS.nil ?_
    repeat refine LS.seq ?_
    refine LS.region rfl ?_
    refine OS.sub (Sub.drop 0 rfl) ?_
    refine OS.pure rfl (e_add rfl rfl rfl (in_i64 (by omega) (by omega))) rfl ?_
    refine OS.pure rfl (fun _ => rfl) rfl ?_
    refine OS.nil ?_
    exact ⟨n - (i + 1), by omega, i + 1, rfl, by omega, by rw [hstep]; rfl, rfl⟩
  have hc : (n : Int) ≤ i := nlt_of hc
  have hin : i = n := by omega
  subst hin
  have hh1 : placesN (bd gs) ((List.replicate 256 0).set 8 (u8of i)) i = head1 (bd gs) := by unfold head1; rw [hbl]
  rw [hh1]
  have h1l := head1_len (ps := bd gs)
  refine LS.exit ?_
  repeat refine LS.seq ?_
  refine LS.region rfl ?_
  refine OS.call noGo rfl (fun _ => rfl) ((newSum_ct).mono ?_)
  rintro v L' ⟨rs, rfl, rfl⟩
  refine ⟨_, rfl, ?_⟩
  refine OS.pure rfl (fun _ => rfl) rfl ?_
  refine OS.nil ?_
  repeat refine LS.seq ?_
  refine LS.region rfl ?_
  refine OS.pure rfl (fun _ => rfl) rfl ?_
  refine OS.pure rfl (fun _ => rfl) rfl ?_
  refine OS.pure rfl (fun _ => rfl) rfl ?_
  refine OS.call noGo rfl (fun _ => rfl) ((sum_ct (n := 248) (bs := (head1 (bd gs)).drop 8) (Or.inr ⟨rh, 8, 248, _, _, rfl, List.mem_cons_self .., rfl, by rw [cut_bytes (by omega), List.take_of_length_le (by simp; omega)]⟩) (by omega)).mono ?_)
  rintro v L' ⟨rfl, rfl⟩
  refine ⟨_, rfl, ?_⟩
  refine OS.pure rfl (fun _ => rfl) rfl ?_
  refine OS.nil ?_
  repeat refine LS.seq ?_
  refine LS.region rfl ?_
  refine OS.pure rfl (fun _ => rfl) rfl ?_
  refine OS.pure rfl (e_len hl rfl rfl rfl rfl rfl) rfl ?_
  refine OS.pure rfl (fun _ => rfl) rfl ?_
  refine OS.nil ?_
  repeat refine LS.seq ?_
  refine LS.block ?_
  refine LS.loopJ [3, 7, 8, 48, 49, 50] (fun q a L' => ∃ k, q = i - k ∧ k ≤ i ∧ L' = (rs, .cells 107 [.int .u64 (sumN (bd gs) (head1 (bd gs)) k)]) :: (rh, .cells 5 (byteCells (head1 (bd gs)))) :: L ∧
    a = [.chan none, .chan none, .chan none, .slice (some ⟨rh, 0, none⟩) 256 256, .chan none, .chan none, .chan none, .func (.func 86) #[] #[ptr rs], .int .u64 (sumN (bd gs) (head1 (bd gs)) k), .chan none, .chan none, .chan none, .chan none, .chan none, .chan none, .chan none, .chan none, .chan none, .chan none, .chan none, .chan none, .chan none, .chan none, .chan none, .chan none, .chan none, .chan none, .chan none, .chan none, .chan none, .chan none, .chan none, .chan none, .chan none, .chan none, .chan none, .chan none, .chan none, .chan none, .chan none, .chan none, .chan none, .chan none, .chan none, .chan none, .chan none, .chan none, .chan none, l, .int .i64 (i : Nat), .int .i64 (k : Nat), .chan none, .chan none, .chan none, .chan none, .chan none, .chan none, .chan none, .chan none, .chan none, .chan none, .chan none, .chan none, .chan none, .chan none, .chan none, .chan none, .chan none, .chan none, .chan none, .chan none, .chan none]) (n := i) rfl ⟨0, rfl, by omega, rfl, rfl⟩ ?_
  rintro q a L' ⟨k, rfl, hk, rfl, rfl⟩
  repeat refine LS.seq ?_
  refine LS.region rfl ?_
  refine OS.pure rfl (fun _ => rfl) rfl ?_
  refine OS.nil ?_
  repeat refine LS.seq ?_
  refine LS.cond rfl (fun hc => ?_) (fun hc => ?_)
  · have hc : (k : Int) < i := lt_of hc
    have hki : k < i := by omega
    have hg : gs[k]? = some gs[k] := List.getElem?_eq_getElem (by omega)
    have hmem : gs[k] ∈ gs := List.getElem_mem (by omega)
    generalize gs[k] = g at hg hmem
    obtain ⟨m, hgv⟩ := hd g hmem
    have hgl := h256 g hmem
    have hml : g.d.length = m := by have := hgv.len; rw [byteCells_len] at this; omega
    have hstep : sumN (bd gs) (head1 (bd gs)) (k + 1) = fnv (sumN (bd gs) (head1 (bd gs)) k) g.d := by simp only [sumN, bd_get hg]
    refine LS.skip ?_
    repeat refine LS.seq ?_
    refine LS.block ?_
    repeat refine LS.seq ?_
    refine LS.region rfl ?_
    refine OS.at (j := k) hl.cons.cons hki rfl rfl rfl rfl rfl rfl (fun r0 o0 row0 cs0 m0 c0 g0 k0 => ?_)
    refine ⟨_, rfl, ?_⟩
    refine OS.read rfl (e_loadm m0 c0 rfl rfl (part_agg rfl rfl (k0 _ (pc_cut (gp_get hg))))) rfl ?_
    refine OS.fresh rfl (e_new (fun _ => rfl) rfl) (fun _ => rfl) (fun rw => ?_)
    refine OS.write rfl (e_store 0 rfl rfl rfl rfl rfl (pair_ok hgv) rfl rfl) rfl ?_
    refine OS.nil ?_
    repeat refine LS.seq ?_
    refine LS.region rfl ?_
    refine OS.pure rfl (fun _ => rfl) rfl ?_
    refine OS.pure rfl (fun _ => rfl) rfl ?_
    refine OS.read rfl (e_load 0 rfl rfl rfl rfl rfl) rfl ?_
    refine OS.sub (Sub.pulls [1] rfl) ?_
    refine OS.call noGo rfl (fun _ => rfl) ((sum_ct hgv.cons.cons (by omega)).mono ?_)
    rintro v L' ⟨rfl, rfl⟩
    refine ⟨_, rfl, ?_⟩
    refine OS.pure rfl (fun _ => rfl) rfl ?_
    refine OS.nil ?_
    repeat refine LS.seq ?_
    refine LS.region rfl ?_
    refine OS.sub (Sub.drop 1 rfl) ?_
    refine OS.pure rfl (e_add rfl rfl rfl (in_i64 (by omega) (by omega))) rfl ?_
    refine OS.pure rfl (fun _ => rfl) rfl ?_
    refine OS.nil ?_
    exact ⟨i - (k + 1), by omega, k + 1, rfl, by omega, by rw [hstep], by rw [hstep]; rfl⟩
  have hc : (i : Int) ≤ k := nlt_of hc
  have hki : k = i := by omega
  subst hki
  have hfin : headB (bd gs) = sumPut (sumN (bd gs) (head1 (bd gs)) k) (head1 (bd gs)) 8 := by unfold headB; rw [hbl]
  rw [hfin]
  generalize sumN (bd gs) (head1 (bd gs)) k = s at *
  generalize head1 (bd gs) = hh at *
  refine LS.sub (Sub.drop 0 rfl) ?_
  refine LS.exit ?_
  repeat refine LS.seq ?_
  refine LS.region rfl ?_
  refine OS.pure rfl (fun _ => rfl) rfl ?_
  refine OS.nil ?_
  repeat refine LS.seq ?_
  refine LS.block ?_
  refine LS.loopJ [3, 8, 59] (fun q a L' => ∃ j, q = 8 - j ∧ j ≤ 8 ∧ L' = (rh, .cells 5 (byteCells (sumPut s hh j))) :: L ∧
    a = [.chan none, .chan none, .chan none, .slice (some ⟨rh, 0, none⟩) 256 256, .chan none, .chan none, .chan none, .chan none, .int .u64 s, .chan none, .chan none, .chan none, .chan none, .chan none, .chan none, .chan none, .chan none, .chan none, .chan none, .chan none, .chan none, .chan none, .chan none, .chan none, .chan none, .chan none, .chan none, .chan none, .chan none, .chan none, .chan none, .chan none, .chan none, .chan none, .chan none, .chan none, .chan none, .chan none, .chan none, .chan none, .chan none, .chan none, .chan none, .chan none, .chan none, .chan none, .chan none, .chan none, .chan none, .chan none, .chan none, .chan none, .chan none, .chan none, .chan none, .chan none, .chan none, .chan none, .chan none, .int .i64 (j : Nat), .chan none, .chan none, .chan none, .chan none, .chan none, .chan none, .chan none, .chan none, .chan none, .chan none, .chan none, .chan none]) (n := 8) rfl ⟨0, rfl, by omega, rfl, rfl⟩ ?_
  rintro q a L' ⟨j, rfl, hj, rfl, rfl⟩
  have hsl : (sumPut s hh j).length = 256 := by rw [sumPut_len, h1l]
  repeat refine LS.seq ?_
  refine LS.region rfl ?_
  refine OS.pure rfl (fun _ => rfl) rfl ?_
  refine OS.nil ?_
  repeat refine LS.seq ?_
  refine LS.cond rfl (fun hc => ?_) (fun hc => ?_)
  · have hc : (j : Int) < (8 : Nat) := lt_of hc
    have hj8 : j < 8 := by omega
    refine LS.skip ?_
    repeat refine LS.seq ?_
    refine LS.block ?_
    repeat refine LS.seq ?_
    refine LS.region rfl ?_
    refine OS.pure rfl (fun _ => rfl) rfl ?_
    refine OS.pure rfl (fun _ => rfl) rfl ?_
    refine OS.nil ?_
    repeat refine LS.seq ?_
    refine LS.region rfl ?_
    refine OS.pure rfl (fun _ => rfl) rfl ?_
    refine OS.pure rfl (fun _ => rfl) rfl ?_
    refine OS.pure rfl (fun _ => rfl) rfl ?_
    refine OS.pure rfl (fun _ => rfl) rfl ?_
    refine OS.pure rfl (e_is (e_mul (k := .i64) (m := 8) (n := ((j : Nat) : Int)) rfl rfl rfl (in_i64 (by omega) (by omega))) (congrArg (Value.int .i64) (show (8 : Int) * ((j : Nat) : Int) = ((8 * j : Nat) : Int) by omega))) rfl ?_
    refine OS.pure rfl (e_shrI (n := 8 * j) rfl rfl rfl) rfl ?_
    refine OS.pure rfl (e_conv8 rfl rfl rfl rfl) rfl ?_
    refine OS.pure rfl (e_index (j := j) (sz := 1) rfl rfl rfl rfl rfl (by omega)) rfl ?_
    refine OS.write rfl (e_store 0 (n := 1) rfl rfl rfl rfl rfl rfl (lay_u8 (cs := sumPut s hh j) (j := j) _ (by omega)) rfl) rfl ?_
    refine OS.nil ?_
    repeat refine LS.seq ?_
    refine LS.region rfl ?_
    refine OS.pure rfl (e_add rfl rfl rfl (in_i64 (by omega) (by omega))) rfl ?_
    refine OS.pure rfl (fun _ => rfl) rfl ?_
    refine OS.nil ?_
    exact ⟨8 - (j + 1), by omega, j + 1, rfl, by omega, rfl, rfl⟩
  have hc : ((8 : Nat) : Int) ≤ j := nlt_of hc
  have hj8 : j = 8 := by omega
  subst hj8
  refine LS.exit ?_
  repeat refine LS.seq ?_
  refine LS.region rfl ?_
  refine OS.pure rfl (fun _ => rfl) rfl ?_
  refine OS.pure rfl (fun _ => rfl) rfl ?_
  refine OS.nil ?_
  refine LS.ret ⟨_, fun _ _ => rfl, ?_⟩
  exact ⟨rh, rfl, rfl⟩
end Go.Proofs.Yteiiekfccecoiaa
