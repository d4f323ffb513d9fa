/- Layer 5: FreemapLoads. -/
import Derived.Test.YtlifdkihjnnonaaFt
namespace Go.Am
theorem Sub.pick2 {p q r s : Nat × ARow} {Y G : RL} : Sub (r :: s :: p :: q :: (Y ++ G)) (p :: q :: (Y ++ r :: s :: G)) := ⟨[], by
  rw [List.append_nil]
  have h1 : (Y ++ r :: s :: G).Perm (r :: s :: (Y ++ G)) := List.perm_middle.trans (List.perm_middle.cons r)
  have h2 : (p :: q :: (Y ++ r :: s :: G)).Perm (p :: q :: r :: s :: (Y ++ G)) := (h1.cons q).cons p
  exact h2.trans (List.perm_append_comm_assoc [p, q] [r, s] (Y ++ G))⟩
theorem eq_same (n : Int) : ieqB n n = true := by rw [ieqB_eq]; simp
end Go.Am
namespace Go.Proofs.Ytlifdkihjnnonaa
open Go.Am
set_option linter.unusedVariables false
set_option maxRecDepth 20000

set_option maxHeartbeats 1000000 in
theorem loads_ct {L : RL} {b : Value} {m : Nat} {bs : List UInt8} (hb : SV 1 L b m (byteCells bs)) (hm : m ≤ 9223372036854775807) : CS Try.prog 5 [b] L fun v' _ => v' = .bool true := by
  have hlen : bs.length = m := by have := hb.len; rw [byteCells_len] at this; omega
  subst hlen
  refine CS.mk (fn := Try.f5) rfl rfl rfl rfl ?_
  repeat refine LS.seq ?_
  refine LS.region rfl ?_
  refine OS.pure rfl (fun _ => rfl) rfl ?_
  refine OS.nil ?_
  by_cases hm3 : 300 < bs.length
  · have hb1 : (!ileB (bs.length : Int) 300) = true := by rw [ileB_eq]; simp; omega
    repeat refine LS.seq ?_
    refine LS.region rfl ?_
    refine OS.pure rfl (fun _ => rfl) rfl ?_
    refine OS.pure rfl (e_len hb rfl rfl rfl rfl rfl) rfl ?_
    refine OS.pure rfl (e_bools (fun _ => rfl) hb1) rfl ?_
    refine OS.nil ?_
    refine LS.cond rfl (fun hc => ?_) (fun hc => by cases hc)
    repeat refine LS.seq ?_
    refine LS.region rfl ?_
    refine OS.pure rfl (fun _ => rfl) rfl ?_
    refine OS.nil ?_
    refine LS.ret ⟨_, fun _ _ => rfl, ?_⟩
    rfl
  have hb1 : (!ileB (bs.length : Int) 300) = false := by rw [ileB_eq]; simp; omega
  repeat refine LS.seq ?_
  refine LS.region rfl ?_
  refine OS.pure rfl (fun _ => rfl) rfl ?_
  refine OS.pure rfl (e_len hb rfl rfl rfl rfl rfl) rfl ?_
  refine OS.pure rfl (e_bools (fun _ => rfl) hb1) rfl ?_
  refine OS.nil ?_
  refine LS.cond rfl (fun hc => by cases hc) (fun hc => ?_)
  refine LS.skip ?_
  repeat refine LS.seq ?_
  refine LS.mid [0, 3] (fun a L' => ∃ ri cap, (cap = openCap ∨ (bs.length = 0 ∧ cap = 0)) ∧ L' = (ri, .cells 5 (byteCells bs)) :: L ∧ a = [b, .chan none, .chan none, .slice (some ⟨ri, 0, none⟩) bs.length cap, .chan none, .chan none, .chan none, .chan none, .chan none, .chan none, .chan none, .chan none, .chan none, .chan none, .chan none, .chan none, .chan none, .chan none, .chan none, .chan none, .chan none, .chan none, .chan none, .chan none, .chan none, .chan none, .chan none, .chan none, .chan none, .chan none, .chan none, .chan none, .chan none, .chan none, .chan none, .chan none, .chan none, .chan none, .chan none, .chan none, .chan none, .chan none, .chan none, .chan none, .chan none, .chan none, .chan none, .chan none, .chan none, .chan none, .chan none, .chan none, .chan none, .chan none, .chan none, .chan none, .chan none, .chan none, .chan none, .chan none, .chan none, .chan none, .chan none, .chan none, .chan none, .chan none, .chan none, .chan none, .chan none, .chan none, .chan none, .chan none, .chan none, .chan none, .chan none, .chan none, .chan none, .chan none, .chan none, .chan none, .chan none, .chan none, .chan none]) ?_ ?_
  · refine LS.region rfl ?_
    refine OS.fresh rfl (e_new (fun _ => rfl) rfl) (fun _ => rfl) (fun r0 => ?_)
    refine OS.pure rfl (fun _ => rfl) rfl ?_
    rcases Nat.eq_zero_or_pos bs.length with h0 | h0
    · have hnil : bs = [] := List.eq_nil_of_length_eq_zero h0
      subst hnil
      refine OS.read rfl (e_appendN (sz := 1) (bts := 1) (n := 0) hb.cons (by decide) rfl rfl rfl) rfl ?_
      refine OS.pure rfl (fun _ => rfl) rfl ?_
      refine OS.nil ?_
      exact ⟨r0, 0, .inr ⟨rfl, rfl⟩, rfl, rfl⟩
    · refine OS.fresh rfl (e_appendF (sz := 1) (bts := 1) (n := 0) (cs := []) hb.cons h0 (List.mem_cons_self ..) rfl (by decide) (byteCells_one _) rfl rfl rfl (by omega) (by omega)) (fun _ => rfl) (fun r2 => ?_)
      refine OS.pure rfl (fun _ => rfl) rfl ?_
      refine OS.sub (Sub.drop 1 rfl) ?_
      refine OS.nil ?_
      refine ⟨r2, openCap, .inl rfl, rfl, ?_⟩
      rw [show 0 + bs.length = bs.length by omega]
      rfl
  rintro a L' ⟨ri, cap, hcap, rfl, rfl⟩
  have hbv : BV ((ri, .cells 5 (byteCells bs)) :: L) (.slice (some ⟨ri, 0, none⟩) bs.length cap) bs := by
    rcases hcap with rfl | ⟨h0, rfl⟩
    · exact .inl (.inr ⟨ri, 0, _, rfl, List.mem_cons_self .., cut_all (byteCells_len _)⟩)
    · exact .inr ⟨SV.row (e := 5) (by simp) (by rw [byteCells_len]; omega), fun r off cap h => by cases h; exact ⟨by decide, by omega⟩⟩
  repeat refine LS.seq ?_
  refine LS.region rfl ?_
  refine OS.pure rfl (fun _ => rfl) rfl ?_
  refine OS.call noGo rfl (fun _ => rfl) ((Load_ct hbv (by omega)).mono ?_)
  rintro v L' (⟨T, rm, rb, hT, rfl, rfl⟩ | ⟨hno, rfl, rfl⟩)
  case inr =>
    refine ⟨_, rfl, ?_⟩
    refine OS.pure rfl (fun _ => rfl) rfl ?_
    refine OS.pure rfl (fun _ => rfl) rfl ?_
    refine OS.pure rfl (fun _ => rfl) rfl ?_
    refine OS.pure rfl (fun _ => rfl) rfl ?_
    refine OS.pure rfl (fun _ => rfl) rfl ?_
    refine OS.nil ?_
    repeat refine LS.seq ?_
    refine LS.region rfl ?_
    refine OS.pure rfl (fun _ => rfl) rfl ?_
    refine OS.call noGo rfl (fun _ => rfl) ((rLoad_ct hb.cons (by omega)).mono ?_)
    rintro v L' (⟨T2, rx, rt, c, hT2, rfl, rfl⟩ | ⟨_, rfl, rfl⟩)
    · exact absurd hT2 (hno T2)
    refine ⟨_, rfl, ?_⟩
    refine OS.pure rfl (fun _ => rfl) rfl ?_
    refine OS.pure rfl (fun _ => rfl) rfl ?_
    refine OS.pure rfl (fun _ => rfl) rfl ?_
    refine OS.pure rfl (fun _ => rfl) rfl ?_
    refine OS.pure rfl (fun _ => rfl) rfl ?_
    refine OS.nil ?_
    repeat refine LS.seq ?_
    refine LS.region rfl ?_
    refine OS.pure rfl (fun _ => rfl) rfl ?_
    refine OS.pure rfl (fun _ => rfl) rfl ?_
    refine OS.pure rfl (fun _ => rfl) rfl ?_
    refine OS.pure rfl (fun _ => rfl) rfl ?_
    refine OS.pure rfl (fun _ => rfl) rfl ?_
    refine OS.pure rfl (fun _ => rfl) rfl ?_
    refine OS.pure rfl (fun _ => rfl) rfl ?_
    refine OS.nil ?_
    refine LS.cond rfl (fun hc => ?_) (fun hc => by cases hc)
    repeat refine LS.seq ?_
    refine LS.region rfl ?_
    refine OS.pure rfl (fun _ => rfl) rfl ?_
    refine OS.pure rfl (fun _ => rfl) rfl ?_
    refine OS.pure rfl (fun _ => rfl) rfl ?_
    refine OS.pure rfl (fun _ => rfl) rfl ?_
    refine OS.pure rfl (fun _ => rfl) rfl ?_
    refine OS.pure rfl (fun _ => rfl) rfl ?_
    refine OS.pure rfl (fun _ => rfl) rfl ?_
    refine OS.pure rfl (fun _ => rfl) rfl ?_
    refine OS.nil ?_
    refine LS.ret ⟨_, fun _ _ => rfl, ?_⟩
    rfl
  refine ⟨_, rfl, ?_⟩
  refine OS.pure rfl (fun _ => rfl) rfl ?_
  refine OS.pure rfl (fun _ => rfl) rfl ?_
  refine OS.pure rfl (fun _ => rfl) rfl ?_
  refine OS.pure rfl (fun _ => rfl) rfl ?_
  refine OS.pure rfl (fun _ => rfl) rfl ?_
  refine OS.nil ?_
  repeat refine LS.seq ?_
  refine LS.region rfl ?_
  refine OS.pure rfl (fun _ => rfl) rfl ?_
  refine OS.call noGo rfl (fun _ => rfl) ((rLoad_ct hb.cons.cons.cons (by omega)).mono ?_)
  rintro v L' (⟨T2, rx, rt, c, hT2, rfl, rfl⟩ | ⟨hno, _⟩)
  case inr => exact absurd hT (hno T)
  have hTT := isMap_uniq hT2 hT
  subst hTT
  have hT3 := hT.1
  refine ⟨_, rfl, ?_⟩
  refine OS.pure rfl (fun _ => rfl) rfl ?_
  refine OS.pure rfl (fun _ => rfl) rfl ?_
  refine OS.pure rfl (fun _ => rfl) rfl ?_
  refine OS.pure rfl (fun _ => rfl) rfl ?_
  refine OS.pure rfl (fun _ => rfl) rfl ?_
  refine OS.nil ?_
  repeat refine LS.seq ?_
  refine LS.region rfl ?_
  refine OS.pure rfl (fun _ => rfl) rfl ?_
  refine OS.pure rfl (fun _ => rfl) rfl ?_
  refine OS.pure rfl (fun _ => rfl) rfl ?_
  refine OS.pure rfl (fun _ => rfl) rfl ?_
  refine OS.pure rfl (fun _ => rfl) rfl ?_
  refine OS.pure rfl (fun _ => rfl) rfl ?_
  refine OS.pure rfl (fun _ => rfl) rfl ?_
  refine OS.nil ?_
  refine LS.cond rfl (fun hc => by cases hc) (fun hc => ?_)
  refine LS.skip ?_
  repeat refine LS.seq ?_
  refine LS.region rfl ?_
  refine OS.pure rfl (fun _ => rfl) rfl ?_
  refine OS.nil ?_
  repeat refine LS.seq ?_
  refine LS.mid [0, 4, 6] (fun a L' => ∃ cs, L' = rf rx rt c T2 (fm rm rb T2 ((ri, .cells 5 (byteCells cs)) :: L)) ∧ a = [b, .chan none, .chan none, .chan none, ptr rm, .chan none, ptr rx, .chan none, .chan none, .chan none, .chan none, .chan none, .chan none, .chan none, .chan none, .chan none, .chan none, .chan none, .chan none, .chan none, .chan none, .chan none, .chan none, .chan none, .chan none, .chan none, .chan none, .chan none, .chan none, .chan none, .chan none, .chan none, .chan none, .chan none, .chan none, .chan none, .chan none, .chan none, .chan none, .chan none, .chan none, .chan none, .chan none, .chan none, .chan none, .chan none, .chan none, .chan none, .chan none, .chan none, .chan none, .chan none, .chan none, .chan none, .chan none, .chan none, .chan none, .chan none, .chan none, .chan none, .chan none, .chan none, .chan none, .chan none, .chan none, .chan none, .chan none, .chan none, .chan none, .chan none, .chan none, .chan none, .chan none, .chan none, .chan none, .chan none, .chan none, .chan none, .chan none, .chan none, .chan none, .chan none, .chan none]) ?_ ?_
  · repeat refine LS.seq ?_
    refine LS.block ?_
    refine LS.loopJ [0, 3, 4, 6, 8] (fun q a L' => ∃ (i : Nat) (cs : List UInt8), q = bs.length - i ∧ i ≤ bs.length ∧ cs.length = bs.length ∧ L' = rf rx rt c T2 (fm rm rb T2 ((ri, .cells 5 (byteCells cs)) :: L)) ∧ a = [b, .chan none, .chan none, .slice (some ⟨ri, 0, none⟩) bs.length cap, ptr rm, .chan none, ptr rx, .chan none, .int .i64 (i : Nat), .chan none, .chan none, .chan none, .chan none, .chan none, .chan none, .chan none, .chan none, .chan none, .chan none, .chan none, .chan none, .chan none, .chan none, .chan none, .chan none, .chan none, .chan none, .chan none, .chan none, .chan none, .chan none, .chan none, .chan none, .chan none, .chan none, .chan none, .chan none, .chan none, .chan none, .chan none, .chan none, .chan none, .chan none, .chan none, .chan none, .chan none, .chan none, .chan none, .chan none, .chan none, .chan none, .chan none, .chan none, .chan none, .chan none, .chan none, .chan none, .chan none, .chan none, .chan none, .chan none, .chan none, .chan none, .chan none, .chan none, .chan none, .chan none, .chan none, .chan none, .chan none, .chan none, .chan none, .chan none, .chan none, .chan none, .chan none, .chan none, .chan none, .chan none, .chan none, .chan none, .chan none, .chan none]) (n := bs.length) rfl
      ⟨0, bs, rfl, by omega, rfl, rfl, rfl⟩ ?_
    rintro q a L' ⟨i, cs, rfl, hi, hcs, rfl, rfl⟩
    repeat refine LS.seq ?_
    refine LS.region rfl ?_
    refine OS.pure rfl (fun _ => rfl) rfl ?_
    refine OS.pure rfl (fun _ => rfl) rfl ?_
    refine OS.pure rfl (fun _ => rfl) rfl ?_
    refine OS.pure rfl (fun _ => rfl) rfl ?_
    refine OS.nil ?_
    repeat refine LS.seq ?_
    refine LS.cond rfl (fun hc => ?_) (fun hc => ?_)
    · have hc := lt_of hc
      have hil : i < bs.length := by omega
      have hic : i < cs.length := by omega
      have h256 := UInt8.toNat_lt cs[i]
      have h255 : (255 : Int) - (cs[i].toNat : Nat) = ((UInt8.ofNat (255 - cs[i].toNat)).toNat : Nat) := by rw [toNat_of (by omega)]; omega
      refine LS.skip ?_
      repeat refine LS.seq ?_
      refine LS.block ?_
      repeat refine LS.seq ?_
      refine LS.region rfl ?_
      refine OS.pure rfl (fun _ => rfl) rfl ?_
      refine OS.pure rfl (fun _ => rfl) rfl ?_
      refine OS.pure rfl (fun _ => rfl) rfl ?_
      refine OS.pure rfl (fun _ => rfl) rfl ?_
      refine OS.pure rfl (e_index (j := i) (sz := 1) rfl rfl rfl rfl rfl hil) rfl ?_
      refine OS.read rfl (e_load 4 rfl rfl rfl rfl (part_one rfl (cell_at hic))) rfl ?_
      refine OS.pure rfl (e_is (e_sub rfl rfl rfl (in_u8 (by omega) (by omega))) (congrArg (Value.int .u8) h255)) rfl ?_
      refine OS.pure rfl (e_index (j := i) (sz := 1) rfl rfl rfl rfl rfl hil) rfl ?_
      refine OS.write rfl (e_store 4 (n := 1) rfl rfl rfl rfl rfl rfl (lay_u8 _ hic) rfl) rfl ?_
      refine OS.nil ?_
      repeat refine LS.seq ?_
      refine LS.region rfl ?_
      refine OS.pure rfl (fun _ => rfl) rfl ?_
      refine OS.pure rfl (e_add rfl rfl rfl (in_i64 (by omega) (by omega))) rfl ?_
      refine OS.pure rfl (fun _ => rfl) rfl ?_
      refine OS.nil ?_
      exact ⟨bs.length - (i + 1), by omega, i + 1, _, rfl, by omega, by rw [List.length_set]; exact hcs, rfl, rfl⟩
    · refine LS.exit ?_
      exact ⟨cs, rfl, rfl⟩
  rintro a L' ⟨cs, rfl, rfl⟩
  repeat refine LS.seq ?_
  refine LS.drawn noGo mixed [(0, false), (2, false), (3, false), (4, false), (5, false), (6, false), (1, true), (7, false), (8, false), (9, false), (11, false), (10, true), (12, true), (13, false), (14, false), (15, false), (16, false), (18, false), (17, true), (19, true), (20, true), (21, false), (22, false), (23, false), (26, false), (27, false), (24, true), (25, false), (28, false), (29, false), (30, false)] rfl rfl (by kernel_rfl) ?_
  refine ODS.pure rfl rfl (fun _ => rfl) rfl ?_
  refine ODS.pure rfl rfl (fun _ => rfl) rfl ?_
  refine ODS.pure rfl rfl (fun _ => rfl) rfl ?_
  refine ODS.pure rfl rfl (fun _ => rfl) rfl ?_
  refine ODS.read rfl rfl (e_load 0 rfl rfl rfl rfl rfl) rfl ?_
  refine ODS.pure rfl rfl (fun _ => rfl) rfl ?_
  refine ODS.call rfl rfl (fun _ => rfl) ((CS.sub (Sub.pulls [3, 3] rfl) Len_ct).mono ?_)
  rintro v3 L3 ⟨rfl, rfl⟩
  refine ⟨_, rfl, Keep.cons rfl (e_load 2 rfl rfl rfl rfl rfl) Keep.nil, ?_⟩
  refine ODS.pure rfl rfl (e_bools (fun _ => rfl) (eq_same _)) rfl ?_
  refine ODS.pure rfl rfl (fun _ => rfl) rfl ?_
  refine ODS.pure rfl rfl (fun _ => rfl) rfl ?_
  refine ODS.pure rfl rfl (fun _ => rfl) rfl ?_
  refine ODS.call rfl rfl (fun _ => rfl) ((Free_ct hT3).mono ?_)
  rintro v3 L3 ⟨rfl, rfl⟩
  refine ⟨_, rfl, Keep.gone rfl Keep.nil, ?_⟩
  refine ODS.call rfl rfl (fun _ => rfl) ((CS.sub (Sub.pulls [3, 3] rfl) (rFree_ct hT3)).mono ?_)
  rintro v3 L3 ⟨rfl, rfl⟩
  refine ⟨_, rfl, Keep.gone rfl Keep.nil, ?_⟩
  refine ODS.pure rfl rfl (e_bools (fun _ => rfl) (eq_same _)) rfl ?_
  refine ODS.pure rfl rfl (fun _ => rfl) rfl ?_
  refine ODS.pure rfl rfl (fun _ => rfl) rfl ?_
  refine ODS.pure rfl rfl (fun _ => rfl) rfl ?_
  refine ODS.pure rfl rfl (fun _ => rfl) rfl ?_
  refine ODS.call rfl rfl (fun _ => rfl) ((CS.sub (Sub.pulls [3, 3] rfl) (List_ct hT3)).mono ?_)
  rintro v3 L3 hg
  obtain ⟨Y, hsub, hY⟩ := gv_back hg
  refine ⟨_, rfl, Keep.gone rfl Keep.nil, ?_⟩
  refine ODS.call rfl rfl (fun _ => rfl) ((CS.sub hsub (CS.sub Sub.pick2 (rList_ct hT3))).mono ?_)
  rintro v4 L4 hg4
  refine ⟨_, rfl, Keep.gone rfl Keep.nil, ?_⟩
  refine ODS.call rfl rfl (fun _ => rfl) ((Ints_ct (xs := lst' T2) (hY.mono fun p hp => hg4.mem _ (by simp [hp])) hg4.sv (by have := lstTo_len T2 T2.length; unfold lst'; unfold lstTo at this; omega)).mono ?_)
  rintro v5 L5 ⟨rfl, rfl⟩
  refine ⟨_, rfl, Keep.gone rfl Keep.nil, ?_⟩
  refine ODS.pure rfl rfl (fun _ => rfl) rfl ?_
  refine ODS.pure rfl rfl (fun _ => rfl) rfl ?_
  refine ODS.pure rfl rfl (fun _ => rfl) rfl ?_
  refine ODS.pure rfl rfl (fun _ => rfl) rfl ?_
  refine ODS.read rfl rfl (e_textSV (hb.mono fun p hp => hg4.mem _ (by simp [hp])) rfl rfl rfl rfl rfl) rfl ?_
  refine ODS.call rfl rfl (fun _ => rfl) ((CS.sub (gv_drop hg4) (CS.sub (Sub.pulls [3, 3] rfl) (Bytes_ct hT3))).mono ?_)
  rintro v6 L6 ⟨r6, rfl, rfl⟩
  refine ⟨_, rfl, Keep.cons rfl (e_textSV (hb.mono fun p hp => by simp [hp]) rfl rfl rfl rfl rfl) (Keep.gone rfl Keep.nil), ?_⟩
  refine ODS.read rfl rfl (e_textSV (bs := mb T2) (SV.row (sz := 1) (e := 5) (r := r6) (by simp) (by rw [byteCells_len]; omega)) rfl rfl rfl rfl rfl) rfl ?_
  rw [← hT.2]
  refine ODS.pure rfl rfl (e_bools (fun _ => rfl) (show bytesEq bs bs = true by rw [bytesEq_eq]; simp)) rfl ?_
  refine ODS.pure rfl rfl (fun _ => rfl) rfl ?_
  refine ODS.pure rfl rfl (fun _ => rfl) rfl ?_
  refine ODS.nil ?_
  refine LS.ret ⟨_, fun _ _ => rfl, ?_⟩
  rfl
end Go.Proofs.Ytlifdkihjnnonaa
