/- Layer 6: NodeNames, by its calls. -/
import Derived.Test.YtdffhllecojgcaaNu
import Derived.Test.YtdffhllecojgcaaAmK
namespace Go.Proofs.Ytdffhllecojgcaa
open Go.Am
open Go.Proofs.Ytdffhllecojgcaa.T
set_option linter.unusedVariables false
set_option maxRecDepth 20000

theorem nv_mk {L : RL} {n : Nd} {v1 v2 v3 : Value} (h1 : SV 1 L v1 n.ks.length (tx n.ks)) (h2 : SV 1 L v2 n.vs.length (tx n.vs)) (h3 : SV 1 L v3 n.kids.length (nums n.kids)) (hb : n.ks.length ≤ 300 ∧ n.vs.length ≤ 300 ∧ n.kids.length ≤ 300 ∧ (∀ k ∈ n.ks, k.length ≤ 300) ∧ (∀ k ∈ n.vs, k.length ≤ 300)) : NV L n v1 v2 v3 :=
  ⟨h1, h2, h3, by omega, by omega, by omega, fun k hk => by have := hb.2.2.2.1 k hk; omega, fun k hk => by have := hb.2.2.2.2 k hk; omega⟩
theorem none_sub {L : RL} : Sub [] L := ⟨L, by simp⟩
theorem encE_ct {L : RL} {n : Nd} {v1 v2 v3 : Value} {e : Int} (h : NV L n v1 v2 v3) (hn : n.ks.length ≤ 1000000) (he : errN n = e) : CS Try.prog 12 [ndV n.leaf v1 v2 v3] L fun u L' => (∃ w, u = .tuple #[w, .int .i64 e]) ∧ L' = [] := by
  refine (Encode_ct h hn).less ?_
  rintro u L' ⟨w, rfl, _⟩
  exact ⟨[], none_sub, ⟨w, by rw [he]⟩, rfl⟩
theorem decE_ct {L : RL} {v : Value} {bs : List UInt8} (hv : BV L v bs) (hn : bs.length ≤ 400000000000) (hd : decB bs = none) : CS Try.prog 21 [v] L fun u L' => u = .tuple #[ndV false (.slice none 0 0) (.slice none 0 0) (.slice none 0 0), .int .i64 4] ∧ L' = [] := by
  refine (Decode_ct hv hn).less ?_
  rintro u L' (⟨_, rfl, rfl⟩ | ⟨nd, w, h1, _⟩)
  · exact ⟨[], none_sub, rfl, rfl⟩
  · rw [hd] at h1; cases h1
theorem head_failed {bs : List UInt8} (h : (rHead bs).2.2 = true) : (rNode bs).2.2 = true := by
  have h1 : (rCnt bs).2.2 = true := by
    cases hc : (rCnt bs).2.2 with
    | true => rfl
    | false => have := (tk_ok hc).1; rw [h] at this; cases this
  unfold rNode
  refine loop_failed ?_
  unfold rStart
  split
  · exact h1
  · exact beh_failed h1
theorem dec_two : decB (2 :: List.replicate 255 0) = none := dec_failed (head_failed rfl)
theorem dec_nil : decB [] = none := by unfold decB; rw [if_neg (by simp)]
theorem err_may {n : Nd} (h : mayN n = false) : errN n = 1 := by unfold errN; rw [h]; rfl
theorem err_full {n : Nd} (h : mayN n = true) (hl : 256 < (bodyN n).length) : errN n = 3 := by unfold errN; rw [if_pos h, if_neg (by omega)]
theorem err_ok {n : Nd} (h : mayN n = true) (hl : (bodyN n).length ≤ 256) : errN n = 0 := by unfold errN; rw [if_pos h, if_pos hl]
abbrev lK : List UInt8 := List.replicate 32 107
abbrev lV : List UInt8 := List.replicate 64 118
abbrev nB : Nd := ⟨true, [(lK.drop 1).take 31 ++ [97], (lK.drop 1).take 31 ++ [98], (lK.drop 1).take 31 ++ [99]], [lV, lV, lV], []⟩
theorem errB : errN nB = 3 := by
  refine err_full (by decide +kernel) ?_
  simp [bodyN, headN, firstN, behN, zipB, tB, grp_lt]
theorem errE : errN ⟨true, [lK], [lV], []⟩ = 0 := by
  refine err_ok (by decide +kernel) ?_
  simp [bodyN, headN, firstN, behN, zipB, tB, grp_lt]
theorem errI : errN ⟨false, [], [], [32768]⟩ = 0 := by
  refine err_ok (by decide +kernel) ?_
  have : (cnt 32768).length ≤ 10 := cnt_len
  simp [bodyN, headN, firstN, zipB, grp_lt]
  omega

theorem names_ct {L : RL} : CS Try.prog 5 [] L fun v L' => v = .bool true := by
  refine CS.sub none_sub ?_
  refine CS.mk (fn := Try.f5) rfl rfl rfl rfl ?_
  repeat refine LS.seq ?_
  refine LS.region rfl ?_
  refine OS.pure rfl (fun _ => rfl) rfl ?_
  refine OS.nil ?_
  repeat refine LS.seq ?_
  refine LS.region rfl ?_
  refine OS.pure rfl (fun _ => rfl) rfl ?_
  refine OS.pure rfl (fun _ => rfl) rfl ?_
  refine OS.nil ?_
  repeat refine LS.seq ?_
  refine LS.region rfl ?_
  refine OS.pure rfl (fun _ => rfl) rfl ?_
  refine OS.nil ?_
  repeat refine LS.seq ?_
  refine LS.mid [1, 2] (fun a L' => L' = [] ∧ a = [.chan none, txt lK, txt lV, .chan none, .chan none, .chan none, .chan none, .chan none, .chan none, .chan none, .chan none, .chan none, .chan none, .chan none, .chan none, .chan none, .chan none, .chan none, .chan none, .chan none, .chan none, .chan none, .chan none, .chan none, .chan none, .chan none, .chan none, .chan none, .chan none, .chan none, .chan none, .chan none, .chan none, .chan none, .chan none, .chan none, .chan none, .chan none, .chan none, .chan none, .chan none, .chan none, .chan none, .chan none, .chan none, .chan none, .chan none, .chan none, .chan none, .chan none, .chan none, .chan none, .chan none, .chan none, .chan none, .chan none, .chan none, .chan none, .chan none, .chan none, .chan none, .chan none, .chan none, .chan none, .chan none, .chan none, .chan none, .chan none, .chan none, .chan none, .chan none, .chan none, .chan none, .chan none, .chan none, .chan none, .chan none, .chan none, .chan none, .chan none, .chan none, .chan none, .chan none, .chan none, .chan none, .chan none, .chan none, .chan none, .chan none, .chan none, .chan none, .chan none, .chan none, .chan none, .chan none, .chan none, .chan none, .chan none, .chan none, .chan none, .chan none, .chan none, .chan none, .chan none, .chan none, .chan none, .chan none, .chan none, .chan none, .chan none, .chan none, .chan none, .chan none, .chan none, .chan none, .chan none, .chan none, .chan none, .chan none, .chan none, .chan none, .chan none, .chan none, .chan none, .chan none, .chan none, .chan none, .chan none, .chan none, .chan none, .chan none, .chan none, .chan none, .chan none, .chan none, .chan none, .chan none, .chan none, .chan none, .chan none, .chan none, .chan none, .chan none, .chan none, .chan none, .chan none, .chan none, .chan none, .chan none, .chan none, .chan none, .chan none, .chan none, .chan none, .chan none, .chan none, .chan none, .chan none, .chan none, .chan none, .chan none, .chan none, .chan none, .chan none, .chan none, .chan none, .chan none, .chan none, .chan none, .chan none, .chan none, .chan none, .chan none, .chan none, .chan none, .chan none, .chan none, .chan none, .chan none, .chan none, .chan none, .chan none, .chan none, .chan none, .chan none, .chan none]) ?_ ?_
  · repeat refine LS.seq ?_
    refine LS.block ?_
    refine LS.loopJ [1, 2, 3] (fun q a L' => ∃ j : Nat, q = 32 - j ∧ j ≤ 32 ∧ L' = [] ∧ a = [.chan none, txt (List.replicate j 107), txt (List.replicate (2 * j) 118), .int .i64 (j : Nat), .chan none, .chan none, .chan none, .chan none, .chan none, .chan none, .chan none, .chan none, .chan none, .chan none, .chan none, .chan none, .chan none, .chan none, .chan none, .chan none, .chan none, .chan none, .chan none, .chan none, .chan none, .chan none, .chan none, .chan none, .chan none, .chan none, .chan none, .chan none, .chan none, .chan none, .chan none, .chan none, .chan none, .chan none, .chan none, .chan none, .chan none, .chan none, .chan none, .chan none, .chan none, .chan none, .chan none, .chan none, .chan none, .chan none, .chan none, .chan none, .chan none, .chan none, .chan none, .chan none, .chan none, .chan none, .chan none, .chan none, .chan none, .chan none, .chan none, .chan none, .chan none, .chan none, .chan none, .chan none, .chan none, .chan none, .chan none, .chan none, .chan none, .chan none, .chan none, .chan none, .chan none, .chan none, .chan none, .chan none, .chan none, .chan none, .chan none, .chan none, .chan none, .chan none, .chan none, .chan none, .chan none, .chan none, .chan none, .chan none, .chan none, .chan none, .chan none, .chan none, .chan none, .chan none, .chan none, .chan none, .chan none, .chan none, .chan none, .chan none, .chan none, .chan none, .chan none, .chan none, .chan none, .chan none, .chan none, .chan none, .chan none, .chan none, .chan none, .chan none, .chan none, .chan none, .chan none, .chan none, .chan none, .chan none, .chan none, .chan none, .chan none, .chan none, .chan none, .chan none, .chan none, .chan none, .chan none, .chan none, .chan none, .chan none, .chan none, .chan none, .chan none, .chan none, .chan none, .chan none, .chan none, .chan none, .chan none, .chan none, .chan none, .chan none, .chan none, .chan none, .chan none, .chan none, .chan none, .chan none, .chan none, .chan none, .chan none, .chan none, .chan none, .chan none, .chan none, .chan none, .chan none, .chan none, .chan none, .chan none, .chan none, .chan none, .chan none, .chan none, .chan none, .chan none, .chan none, .chan none, .chan none, .chan none, .chan none, .chan none, .chan none, .chan none, .chan none, .chan none, .chan none, .chan none, .chan none, .chan none, .chan none, .chan none]) (n := 32) rfl ⟨0, rfl, by omega, rfl, rfl⟩ ?_
    rintro q a L' ⟨j, rfl, hj, rfl, rfl⟩
    repeat refine LS.seq ?_
    refine LS.region rfl ?_
    refine OS.pure rfl (fun _ => rfl) rfl ?_
    refine OS.pure rfl (fun _ => rfl) rfl ?_
    refine OS.nil ?_
    repeat refine LS.seq ?_
    refine LS.cond rfl (fun hc => ?_) (fun hc => ?_)
    · have hc : (j : Int) < 32 := lt_of hc
      refine LS.skip ?_
      repeat refine LS.seq ?_
      refine LS.block ?_
      repeat refine LS.seq ?_
      refine LS.region rfl ?_
      refine OS.pure rfl (fun _ => rfl) rfl ?_
      refine OS.pure rfl (e_cat rfl rfl rfl (by simp; omega)) rfl ?_
      refine OS.pure rfl (fun _ => rfl) rfl ?_
      refine OS.nil ?_
      repeat refine LS.seq ?_
      refine LS.region rfl ?_
      refine OS.pure rfl (fun _ => rfl) rfl ?_
      refine OS.pure rfl (e_cat rfl rfl rfl (by simp; omega)) rfl ?_
      refine OS.pure rfl (fun _ => rfl) rfl ?_
      refine OS.nil ?_
      repeat refine LS.seq ?_
      refine LS.region rfl ?_
      refine OS.pure rfl (fun _ => rfl) rfl ?_
      refine OS.pure rfl (e_add (m := j) (n := 1) rfl rfl rfl (in_i64 (by omega) (by omega))) rfl ?_
      refine OS.pure rfl (fun _ => rfl) rfl ?_
      refine OS.nil ?_
      refine ⟨32 - (j + 1), by omega, j + 1, rfl, by omega, rfl, ?_⟩
      have e1 : List.replicate j (107 : UInt8) ++ [107] = List.replicate (j + 1) 107 := List.replicate_succ'.symm
      have e2 : List.replicate (2 * j) (118 : UInt8) ++ [118, 118] = List.replicate (2 * (j + 1)) 118 := by
        rw [show [118, 118] = List.replicate 2 (118 : UInt8) from rfl, List.replicate_append_replicate]
        congr 1
      rw [e1, e2]
      rfl
    · have hc : (32 : Int) ≤ j := nlt_of hc
      have hje : j = 32 := by omega
      subst hje
      refine LS.exit ?_
      exact ⟨rfl, rfl⟩
  rintro a L' ⟨rfl, rfl⟩
  repeat refine LS.seq ?_
  refine LS.region rfl ?_
  refine OS.fresh rfl (e_new (fun _ => rfl) rfl) (fun _ => rfl) (fun r1 => ?_)
  refine OS.fresh rfl (e_new (fun _ => rfl) rfl) (fun _ => rfl) (fun r2 => ?_)
  refine OS.pure rfl (fun _ => rfl) rfl ?_
  refine OS.call noGo rfl (fun _ => rfl) (((encE_ct (n := ⟨true, [[98], [97]], [[], []], []⟩) (nv_mk (SV.row (n := 2) (List.mem_cons_of_mem _ (List.mem_cons_self ..)) rfl) (SV.row (n := 2) (List.mem_cons_self ..) rfl) (.inl ⟨rfl, rfl, rfl⟩) (by decide)) (by decide) (err_may (by decide +kernel)))).mono ?_)
  rintro u L' ⟨⟨wa, rfl⟩, rfl⟩
  refine ⟨_, rfl, ?_⟩
  refine OS.pure rfl (fun _ => rfl) rfl ?_
  refine OS.pure rfl (fun _ => rfl) rfl ?_
  refine OS.pure rfl (fun _ => rfl) rfl ?_
  refine OS.pure rfl (fun _ => rfl) rfl ?_
  refine OS.pure rfl (fun _ => rfl) rfl ?_
  refine OS.nil ?_
  repeat refine LS.seq ?_
  refine LS.mid [1, 2, 5, 7] (fun a L' => L' = [] ∧ a = [.chan none, txt lK, txt lV, .chan none, .chan none, .int .i64 1, .chan none, .int .i64 3, .chan none, .chan none, .chan none, .chan none, .chan none, .chan none, .chan none, .chan none, .chan none, .chan none, .chan none, .chan none, .chan none, .chan none, .chan none, .chan none, .chan none, .chan none, .chan none, .chan none, .chan none, .chan none, .chan none, .chan none, .chan none, .chan none, .chan none, .chan none, .chan none, .chan none, .chan none, .chan none, .chan none, .chan none, .chan none, .chan none, .chan none, .chan none, .chan none, .chan none, .chan none, .chan none, .chan none, .chan none, .chan none, .chan none, .chan none, .chan none, .chan none, .chan none, .chan none, .chan none, .chan none, .chan none, .chan none, .chan none, .chan none, .chan none, .chan none, .chan none, .chan none, .chan none, .chan none, .chan none, .chan none, .chan none, .chan none, .chan none, .chan none, .chan none, .chan none, .chan none, .chan none, .chan none, .chan none, .chan none, .chan none, .chan none, .chan none, .chan none, .chan none, .chan none, .chan none, .chan none, .chan none, .chan none, .chan none, .chan none, .chan none, .chan none, .chan none, .chan none, .chan none, .chan none, .chan none, .chan none, .chan none, .chan none, .chan none, .chan none, .chan none, .chan none, .chan none, .chan none, .chan none, .chan none, .chan none, .chan none, .chan none, .chan none, .chan none, .chan none, .chan none, .chan none, .chan none, .chan none, .chan none, .chan none, .chan none, .chan none, .chan none, .chan none, .chan none, .chan none, .chan none, .chan none, .chan none, .chan none, .chan none, .chan none, .chan none, .chan none, .chan none, .chan none, .chan none, .chan none, .chan none, .chan none, .chan none, .chan none, .chan none, .chan none, .chan none, .chan none, .chan none, .chan none, .chan none, .chan none, .chan none, .chan none, .chan none, .chan none, .chan none, .chan none, .chan none, .chan none, .chan none, .chan none, .chan none, .chan none, .chan none, .chan none, .chan none, .chan none, .chan none, .chan none, .chan none, .chan none, .chan none, .chan none, .chan none, .chan none, .chan none, .chan none, .chan none, .chan none, .chan none, .chan none]) ?_ ?_
  · refine LS.forked noGo mixed 21 rfl rfl (by kernel_rfl) ?_
    refine OGS.pure 0 (by kernel_rfl) rfl rfl (fun _ => rfl) rfl ?_
    refine OGS.pure 1 (by kernel_rfl) rfl rfl (e_part (s := lK) (l := 1) (u := 32) rfl rfl rfl rfl rfl rfl rfl (by simp) (by decide)) rfl ?_
    refine OGS.pure 2 (by kernel_rfl) rfl rfl (e_cat rfl rfl rfl (by simp)) rfl ?_
    refine OGS.pure 3 (by kernel_rfl) rfl rfl (fun _ => rfl) rfl ?_
    refine OGS.pure 4 (by kernel_rfl) rfl rfl (e_part (s := lK) (l := 1) (u := 32) rfl rfl rfl rfl rfl rfl rfl (by simp) (by decide)) rfl ?_
    refine OGS.pure 5 (by kernel_rfl) rfl rfl (e_cat rfl rfl rfl (by simp)) rfl ?_
    refine OGS.pure 6 (by kernel_rfl) rfl rfl (fun _ => rfl) rfl ?_
    refine OGS.pure 7 (by kernel_rfl) rfl rfl (e_part (s := lK) (l := 1) (u := 32) rfl rfl rfl rfl rfl rfl rfl (by simp) (by decide)) rfl ?_
    refine OGS.pure 8 (by kernel_rfl) rfl rfl (e_cat rfl rfl rfl (by simp)) rfl ?_
    refine OGS.pure 10 (by kernel_rfl) rfl rfl (fun _ => rfl) rfl ?_
    refine OGS.pure 11 (by kernel_rfl) rfl rfl (fun _ => rfl) rfl ?_
    refine OGS.pure 12 (by kernel_rfl) rfl rfl (fun _ => rfl) rfl ?_
    refine OGS.turn2 9 13 (by kernel_rfl) (by kernel_rfl) ?_ ?_
    · refine OT.fresh rfl rfl (e_new (fun _ => rfl) rfl) (fun _ => rfl) (fun _ => Keep.nil) (fun r9 => ?_)
      refine OGS.turn1 13 (by kernel_rfl) (by kernel_rfl) (OT.fresh rfl rfl (e_new (fun _ => rfl) rfl) (fun _ => rfl) (fun _ => Keep.nil) (fun r13 => ?_))
      refine OGS.pure 14 (by kernel_rfl) rfl rfl (fun _ => rfl) rfl ?_
      refine OGS.turn1 15 (by kernel_rfl) (by kernel_rfl) (OT.call rfl rfl (fun _ => rfl) ((encE_ct (n := nB) (nv_mk (SV.row (n := 3) (List.mem_cons_of_mem _ (List.mem_cons_self ..)) rfl) (SV.row (n := 3) (List.mem_cons_self ..) rfl) (.inl ⟨rfl, rfl, rfl⟩) (by decide +kernel)) (by decide) errB).mono ?_))
      rintro u L' ⟨⟨wb, rfl⟩, rfl⟩
      refine ⟨_, rfl, Keep.nil, ?_⟩
      refine OGS.pure 16 (by kernel_rfl) rfl rfl (fun _ => rfl) rfl ?_
      refine OGS.pure 17 (by kernel_rfl) rfl rfl (fun _ => rfl) rfl ?_
      refine OGS.pure 18 (by kernel_rfl) rfl rfl (fun _ => rfl) rfl ?_
      refine OGS.pure 19 (by kernel_rfl) rfl rfl (fun _ => rfl) rfl ?_
      refine OGS.pure 20 (by kernel_rfl) rfl rfl (fun _ => rfl) rfl ?_
      exact OGS.nil (by kernel_rfl) ⟨rfl, rfl⟩
    · refine OT.fresh rfl rfl (e_new (fun _ => rfl) rfl) (fun _ => rfl) (fun _ => Keep.nil) (fun r9 => ?_)
      refine OGS.turn1 9 (by kernel_rfl) (by kernel_rfl) (OT.fresh rfl rfl (e_new (fun _ => rfl) rfl) (fun _ => rfl) (fun _ => Keep.nil) (fun r13 => ?_))
      refine OGS.pure 14 (by kernel_rfl) rfl rfl (fun _ => rfl) rfl ?_
      refine OGS.turn1 15 (by kernel_rfl) (by kernel_rfl) (OT.call rfl rfl (fun _ => rfl) ((encE_ct (n := nB) (nv_mk (SV.row (n := 3) (List.mem_cons_self ..) rfl) (SV.row (n := 3) (List.mem_cons_of_mem _ (List.mem_cons_self ..)) rfl) (.inl ⟨rfl, rfl, rfl⟩) (by decide +kernel)) (by decide) errB).mono ?_))
      rintro u L' ⟨⟨wb, rfl⟩, rfl⟩
      refine ⟨_, rfl, Keep.nil, ?_⟩
      refine OGS.pure 16 (by kernel_rfl) rfl rfl (fun _ => rfl) rfl ?_
      refine OGS.pure 17 (by kernel_rfl) rfl rfl (fun _ => rfl) rfl ?_
      refine OGS.pure 18 (by kernel_rfl) rfl rfl (fun _ => rfl) rfl ?_
      refine OGS.pure 19 (by kernel_rfl) rfl rfl (fun _ => rfl) rfl ?_
      refine OGS.pure 20 (by kernel_rfl) rfl rfl (fun _ => rfl) rfl ?_
      exact OGS.nil (by kernel_rfl) ⟨rfl, rfl⟩
  rintro a L' ⟨rfl, rfl⟩
  repeat refine LS.seq ?_
  refine LS.region rfl ?_
  refine OS.pure rfl (fun _ => rfl) rfl ?_
  refine OS.pure rfl (e_cat rfl rfl rfl (by simp)) rfl ?_
  refine OS.fresh rfl (e_new (fun _ => rfl) rfl) (fun _ => rfl) (fun r1 => ?_)
  refine OS.fresh rfl (e_new (fun _ => rfl) rfl) (fun _ => rfl) (fun r2 => ?_)
  refine OS.pure rfl (fun _ => rfl) rfl ?_
  refine OS.call noGo rfl (fun _ => rfl) (((encE_ct (n := ⟨true, [lK ++ [107]], [[]], []⟩) (nv_mk (SV.row (n := 1) (List.mem_cons_of_mem _ (List.mem_cons_self ..)) rfl) (SV.row (n := 1) (List.mem_cons_self ..) rfl) (.inl ⟨rfl, rfl, rfl⟩) (by decide +kernel)) (by decide) (err_may (by decide +kernel)))).mono ?_)
  rintro u L' ⟨⟨wc, rfl⟩, rfl⟩
  refine ⟨_, rfl, ?_⟩
  refine OS.pure rfl (fun _ => rfl) rfl ?_
  refine OS.pure rfl (fun _ => rfl) rfl ?_
  refine OS.pure rfl (fun _ => rfl) rfl ?_
  refine OS.pure rfl (fun _ => rfl) rfl ?_
  refine OS.pure rfl (fun _ => rfl) rfl ?_
  refine OS.nil ?_
  repeat refine LS.seq ?_
  refine LS.region rfl ?_
  refine OS.pure rfl (fun _ => rfl) rfl ?_
  refine OS.fresh rfl (e_new (fun _ => rfl) rfl) (fun _ => rfl) (fun r1 => ?_)
  refine OS.pure rfl (fun _ => rfl) rfl ?_
  refine OS.pure rfl (e_cat rfl rfl rfl (by simp)) rfl ?_
  refine OS.fresh rfl (e_new (fun _ => rfl) rfl) (fun _ => rfl) (fun r2 => ?_)
  refine OS.pure rfl (fun _ => rfl) rfl ?_
  refine OS.call noGo rfl (fun _ => rfl) (((encE_ct (n := ⟨true, [lK], [lV ++ [118]], []⟩) (nv_mk (SV.row (n := 1) (List.mem_cons_of_mem _ (List.mem_cons_self ..)) rfl) (SV.row (n := 1) (List.mem_cons_self ..) rfl) (.inl ⟨rfl, rfl, rfl⟩) (by decide +kernel)) (by decide) (err_may (by decide +kernel)))).mono ?_)
  rintro u L' ⟨⟨wd, rfl⟩, rfl⟩
  refine ⟨_, rfl, ?_⟩
  refine OS.pure rfl (fun _ => rfl) rfl ?_
  refine OS.pure rfl (fun _ => rfl) rfl ?_
  refine OS.pure rfl (fun _ => rfl) rfl ?_
  refine OS.pure rfl (fun _ => rfl) rfl ?_
  refine OS.pure rfl (fun _ => rfl) rfl ?_
  refine OS.nil ?_
  repeat refine LS.seq ?_
  refine LS.region rfl ?_
  refine OS.pure rfl (fun _ => rfl) rfl ?_
  refine OS.fresh rfl (e_new (fun _ => rfl) rfl) (fun _ => rfl) (fun r1 => ?_)
  refine OS.pure rfl (fun _ => rfl) rfl ?_
  refine OS.fresh rfl (e_new (fun _ => rfl) rfl) (fun _ => rfl) (fun r2 => ?_)
  refine OS.pure rfl (fun _ => rfl) rfl ?_
  refine OS.call noGo rfl (fun _ => rfl) (((encE_ct (n := ⟨true, [lK], [lV], []⟩) (nv_mk (SV.row (n := 1) (List.mem_cons_of_mem _ (List.mem_cons_self ..)) rfl) (SV.row (n := 1) (List.mem_cons_self ..) rfl) (.inl ⟨rfl, rfl, rfl⟩) (by decide +kernel)) (by decide) errE)).mono ?_)
  rintro u L' ⟨⟨we, rfl⟩, rfl⟩
  refine ⟨_, rfl, ?_⟩
  refine OS.pure rfl (fun _ => rfl) rfl ?_
  refine OS.pure rfl (fun _ => rfl) rfl ?_
  refine OS.pure rfl (fun _ => rfl) rfl ?_
  refine OS.pure rfl (fun _ => rfl) rfl ?_
  refine OS.pure rfl (fun _ => rfl) rfl ?_
  refine OS.nil ?_
  have hone : allOne (repL [Value.int .u8 0] 255) = true := by rw [repL_u8]; exact byteCells_one _
  repeat refine LS.seq ?_
  refine LS.region rfl ?_
  refine OS.fresh rfl (e_new (fun _ => rfl) rfl) (fun _ => rfl) (fun r1 => ?_)
  refine OS.opened 91 0 (sz := 1) rfl rfl rfl (by decide) (by decide) rfl ?_
  refine OS.fresh rfl (e_appendZ 0 (e := 5) (sz := 1) (bts := 1) (zs := [.int .u8 0]) (m := 255) (old := [.int .u8 2]) rfl (by kernel_rfl) rfl hone (by omega) (by omega) (by omega) rfl (cut_all rfl) rfl) (fun _ => rfl) (fun r2 => ?_)
  refine OS.call noGo rfl (fun _ => rfl) (((decE_ct (bs := 2 :: List.replicate 255 0) (.inl (.inr ⟨r2, 0, _, by rw [show (2 :: List.replicate 255 0 : List UInt8).length = 1 + 255 by simp], List.mem_cons_self .., by rw [repL_u8]; exact cut_all (by simp [byteCells])⟩)) (by simp) dec_two)).mono ?_)
  rintro u L' ⟨rfl, rfl⟩
  refine ⟨_, rfl, ?_⟩
  refine OS.pure rfl (fun _ => rfl) rfl ?_
  refine OS.pure rfl (fun _ => rfl) rfl ?_
  refine OS.pure rfl (fun _ => rfl) rfl ?_
  refine OS.fresh rfl (e_new (fun _ => rfl) rfl) (fun _ => rfl) (fun r14 => ?_)
  refine OS.write rfl (e_store 0 rfl rfl rfl rfl rfl rfl rfl rfl) rfl ?_
  refine OS.pure rfl (fun _ => rfl) rfl ?_
  refine OS.nil ?_
  repeat refine LS.seq ?_
  refine LS.region rfl ?_
  refine OS.call noGo rfl (fun _ => rfl) (((decE_ct (bs := []) (.inl (.inl ⟨rfl, rfl⟩)) (by simp) dec_nil)).mono ?_)
  rintro u L' ⟨rfl, rfl⟩
  refine ⟨_, rfl, ?_⟩
  refine OS.pure rfl (fun _ => rfl) rfl ?_
  refine OS.pure rfl (fun _ => rfl) rfl ?_
  refine OS.pure rfl (fun _ => rfl) rfl ?_
  refine OS.fresh rfl (e_new (fun _ => rfl) rfl) (fun _ => rfl) (fun r16 => ?_)
  refine OS.write rfl (e_store 0 rfl rfl rfl rfl rfl rfl rfl rfl) rfl ?_
  refine OS.pure rfl (fun _ => rfl) rfl ?_
  refine OS.nil ?_
  repeat refine LS.seq ?_
  refine LS.region rfl ?_
  refine OS.pure rfl (fun _ => rfl) rfl ?_
  refine OS.call noGo rfl (fun _ => rfl) (((encE_ct (n := ⟨false, [], [], []⟩) (nv_mk (.inl ⟨rfl, rfl, rfl⟩) (.inl ⟨rfl, rfl, rfl⟩) (.inl ⟨rfl, rfl, rfl⟩) (by decide +kernel)) (by decide) (err_may (by decide +kernel)))).mono ?_)
  rintro u L' ⟨⟨wh, rfl⟩, rfl⟩
  refine ⟨_, rfl, ?_⟩
  refine OS.pure rfl (fun _ => rfl) rfl ?_
  refine OS.pure rfl (fun _ => rfl) rfl ?_
  refine OS.pure rfl (fun _ => rfl) rfl ?_
  refine OS.pure rfl (fun _ => rfl) rfl ?_
  refine OS.pure rfl (fun _ => rfl) rfl ?_
  refine OS.nil ?_
  repeat refine LS.seq ?_
  refine LS.region rfl ?_
  refine OS.fresh rfl (e_new (fun _ => rfl) rfl) (fun _ => rfl) (fun r1 => ?_)
  refine OS.pure rfl (fun _ => rfl) rfl ?_
  refine OS.call noGo rfl (fun _ => rfl) (((encE_ct (n := ⟨false, [], [], [32768]⟩) (nv_mk (.inl ⟨rfl, rfl, rfl⟩) (.inl ⟨rfl, rfl, rfl⟩) (SV.row (n := 1) (List.mem_cons_self ..) rfl) (by decide +kernel)) (by decide) errI)).mono ?_)
  rintro u L' ⟨⟨wi, rfl⟩, rfl⟩
  refine ⟨_, rfl, ?_⟩
  refine OS.pure rfl (fun _ => rfl) rfl ?_
  refine OS.pure rfl (fun _ => rfl) rfl ?_
  refine OS.pure rfl (fun _ => rfl) rfl ?_
  refine OS.pure rfl (fun _ => rfl) rfl ?_
  refine OS.pure rfl (fun _ => rfl) rfl ?_
  refine OS.nil ?_
  repeat refine LS.seq ?_
  refine LS.region rfl ?_
  refine OS.fresh rfl (e_new (fun _ => rfl) rfl) (fun _ => rfl) (fun r1 => ?_)
  refine OS.pure rfl (fun _ => rfl) rfl ?_
  refine OS.call noGo rfl (fun _ => rfl) (((encE_ct (n := ⟨false, [], [], [32769]⟩) (nv_mk (.inl ⟨rfl, rfl, rfl⟩) (.inl ⟨rfl, rfl, rfl⟩) (SV.row (n := 1) (List.mem_cons_self ..) rfl) (by decide +kernel)) (by decide) (err_may (by decide +kernel)))).mono ?_)
  rintro u L' ⟨⟨wj, rfl⟩, rfl⟩
  refine ⟨_, rfl, ?_⟩
  refine OS.pure rfl (fun _ => rfl) rfl ?_
  refine OS.pure rfl (fun _ => rfl) rfl ?_
  refine OS.pure rfl (fun _ => rfl) rfl ?_
  refine OS.pure rfl (fun _ => rfl) rfl ?_
  refine OS.pure rfl (fun _ => rfl) rfl ?_
  refine OS.nil ?_
  repeat refine LS.seq ?_
  refine LS.region rfl ?_
  refine OS.fresh rfl (e_new (fun _ => rfl) rfl) (fun _ => rfl) (fun r1 => ?_)
  refine OS.fresh rfl (e_new (fun _ => rfl) rfl) (fun _ => rfl) (fun r2 => ?_)
  refine OS.pure rfl (fun _ => rfl) rfl ?_
  refine OS.call noGo rfl (fun _ => rfl) (((encE_ct (n := ⟨true, [[97], [97]], [[], []], []⟩) (nv_mk (SV.row (n := 2) (List.mem_cons_of_mem _ (List.mem_cons_self ..)) rfl) (SV.row (n := 2) (List.mem_cons_self ..) rfl) (.inl ⟨rfl, rfl, rfl⟩) (by decide +kernel)) (by decide) (err_may (by decide +kernel)))).mono ?_)
  rintro u L' ⟨⟨wk, rfl⟩, rfl⟩
  refine ⟨_, rfl, ?_⟩
  refine OS.pure rfl (fun _ => rfl) rfl ?_
  refine OS.pure rfl (fun _ => rfl) rfl ?_
  refine OS.pure rfl (fun _ => rfl) rfl ?_
  refine OS.pure rfl (fun _ => rfl) rfl ?_
  refine OS.pure rfl (fun _ => rfl) rfl ?_
  refine OS.nil ?_
  repeat refine LS.seq ?_
  refine LS.region rfl ?_
  refine OS.fresh rfl (e_new (fun _ => rfl) rfl) (fun _ => rfl) (fun r1 => ?_)
  refine OS.fresh rfl (e_new (fun _ => rfl) rfl) (fun _ => rfl) (fun r2 => ?_)
  refine OS.pure rfl (fun _ => rfl) rfl ?_
  refine OS.call noGo rfl (fun _ => rfl) (((encE_ct (n := ⟨true, [[]], [[]], []⟩) (nv_mk (SV.row (n := 1) (List.mem_cons_of_mem _ (List.mem_cons_self ..)) rfl) (SV.row (n := 1) (List.mem_cons_self ..) rfl) (.inl ⟨rfl, rfl, rfl⟩) (by decide +kernel)) (by decide) (err_may (by decide +kernel)))).mono ?_)
  rintro u L' ⟨⟨wl, rfl⟩, rfl⟩
  refine ⟨_, rfl, ?_⟩
  refine OS.pure rfl (fun _ => rfl) rfl ?_
  refine OS.pure rfl (fun _ => rfl) rfl ?_
  refine OS.pure rfl (fun _ => rfl) rfl ?_
  refine OS.pure rfl (fun _ => rfl) rfl ?_
  refine OS.pure rfl (fun _ => rfl) rfl ?_
  refine OS.nil ?_
  repeat refine LS.seq ?_
  refine LS.region rfl ?_
  refine OS.pure rfl (fun _ => rfl) rfl ?_
  refine OS.pure rfl (fun _ => rfl) rfl ?_
  refine OS.pure rfl (fun _ => rfl) rfl ?_
  refine OS.pure rfl (fun _ => rfl) rfl ?_
  refine OS.pure rfl (fun _ => rfl) rfl ?_
  refine OS.pure rfl (fun _ => rfl) rfl ?_
  refine OS.pure rfl (fun _ => rfl) rfl ?_
  refine OS.pure rfl (fun _ => rfl) rfl ?_
  refine OS.pure rfl (fun _ => rfl) rfl ?_
  refine OS.pure rfl (fun _ => rfl) rfl ?_
  refine OS.pure rfl (fun _ => rfl) rfl ?_
  refine OS.pure rfl (fun _ => rfl) rfl ?_
  refine OS.pure rfl (fun _ => rfl) rfl ?_
  refine OS.pure rfl (fun _ => rfl) rfl ?_
  refine OS.pure rfl (fun _ => rfl) rfl ?_
  refine OS.pure rfl (fun _ => rfl) rfl ?_
  refine OS.pure rfl (fun _ => rfl) rfl ?_
  refine OS.pure rfl (fun _ => rfl) rfl ?_
  refine OS.pure rfl (fun _ => rfl) rfl ?_
  refine OS.pure rfl (fun _ => rfl) rfl ?_
  refine OS.pure rfl (fun _ => rfl) rfl ?_
  refine OS.pure rfl (fun _ => rfl) rfl ?_
  refine OS.pure rfl (fun _ => rfl) rfl ?_
  refine OS.pure rfl (fun _ => rfl) rfl ?_
  refine OS.pure rfl (fun _ => rfl) rfl ?_
  refine OS.pure rfl (fun _ => rfl) rfl ?_
  refine OS.pure rfl (fun _ => rfl) rfl ?_
  refine OS.pure rfl (fun _ => rfl) rfl ?_
  refine OS.pure rfl (fun _ => rfl) rfl ?_
  refine OS.pure rfl (fun _ => rfl) rfl ?_
  refine OS.pure rfl (fun _ => rfl) rfl ?_
  refine OS.pure rfl (fun _ => rfl) rfl ?_
  refine OS.pure rfl (fun _ => rfl) rfl ?_
  refine OS.pure rfl (fun _ => rfl) rfl ?_
  refine OS.pure rfl (fun _ => rfl) rfl ?_
  refine OS.pure rfl (fun _ => rfl) rfl ?_
  refine OS.pure rfl (fun _ => rfl) rfl ?_
  refine OS.pure rfl (fun _ => rfl) rfl ?_
  refine OS.pure rfl (fun _ => rfl) rfl ?_
  refine OS.pure rfl (fun _ => rfl) rfl ?_
  refine OS.pure rfl (fun _ => rfl) rfl ?_
  refine OS.pure rfl (fun _ => rfl) rfl ?_
  refine OS.pure rfl (fun _ => rfl) rfl ?_
  refine OS.pure rfl (fun _ => rfl) rfl ?_
  refine OS.pure rfl (fun _ => rfl) rfl ?_
  refine OS.pure rfl (fun _ => rfl) rfl ?_
  refine OS.pure rfl (fun _ => rfl) rfl ?_
  refine OS.pure rfl (fun _ => rfl) rfl ?_
  refine OS.pure rfl (fun _ => rfl) rfl ?_
  refine OS.pure rfl (fun _ => rfl) rfl ?_
  refine OS.pure rfl (fun _ => rfl) rfl ?_
  refine OS.pure rfl (fun _ => rfl) rfl ?_
  refine OS.pure rfl (fun _ => rfl) rfl ?_
  refine OS.call noGo rfl (fun _ => rfl) ((awake_ct).mono ?_)
  rintro u L' ⟨rfl, rfl⟩
  refine ⟨_, rfl, ?_⟩
  refine OS.pure rfl (fun _ => rfl) rfl ?_
  refine OS.pure rfl (fun _ => rfl) rfl ?_
  refine OS.nil ?_
  refine LS.ret ⟨_, fun _ _ => rfl, ?_⟩
  rfl
end Go.Proofs.Ytdffhllecojgcaa
