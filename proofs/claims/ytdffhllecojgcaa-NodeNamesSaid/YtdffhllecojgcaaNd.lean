/- Layer 6, the document's: may a node be? Where does a key stand? How large is a node? A node in new memory. -/
import Derived.Test.YtdffhllecojgcaaNc
namespace Go.Proofs.Ytdffhllecojgcaa
open Go.Am
set_option linter.unusedVariables false
set_option maxRecDepth 20000

theorem may_split (lf : Bool) (ks vs : List (List UInt8)) (kids : List Int) (h : rise [] ks = true) : mayN ⟨lf, ks, vs, kids⟩ = (if lf then decide (vs.length = ks.length) && decide (kids.length = 0) && vs.all (fun v => decide (v.length ≤ 64))
    else decide (kids.length = ks.length + 1) && decide (vs.length = 0) && kids.all (fun z => decide (0 ≤ z ∧ z ≤ 32768))) := by
  unfold mayN
  simp only [h, Bool.true_and]
theorem rMay_ct {L : RL} {n : Nd} {v1 v2 v3 : Value} (h : NV L n v1 v2 v3) : CS Try.prog 26 [ndV n.leaf v1 v2 v3] L fun u L' => u = .bool (mayN n) ∧ L' = L := by
  suffices g : CS Try.prog 26 [ndV n.leaf v1 v2 v3] L fun u L' => u = .bool (mayN n) ∧ ∃ x, L' = x :: L by
    exact g.less fun u L' ⟨h1, x, h2⟩ => ⟨L, by rw [h2]; exact Sub.tail, h1, rfl⟩
  have hkn := h.kn
  have hvn := h.vn
  have hzn := h.zn
  obtain ⟨lf, ks, vs, kids⟩ := n
  simp only at hkn hvn hzn
  refine CS.mk (fn := Try.f26) rfl rfl rfl rfl ?_
  repeat refine LS.seq ?_
  refine LS.region rfl ?_
  refine OS.fresh rfl (e_new (fun _ => rfl) rfl) (fun _ => rfl) (fun rn => ?_)
  refine OS.pure rfl (fun _ => rfl) rfl ?_
  refine OS.nil ?_
  have h := h.cons (x := (rn, nrRow lf v1 v2 v3))
  obtain ⟨hk, hv, hz, _, _, _, hkl, hvl⟩ := h
  simp only at hk hv hz hkl hvl
  repeat refine LS.seq ?_
  refine LS.region rfl ?_
  refine OS.pure rfl (fun _ => rfl) rfl ?_
  refine OS.nil ?_
  repeat refine LS.seq ?_
  refine LS.block ?_
  refine LS.loopJ [1, 3] (fun q a L' => ∃ j : Nat, q = ks.length - j ∧ j ≤ ks.length ∧ rise (lastK ks j) (ks.drop j) = rise [] ks ∧ L' = (rn, nrRow lf v1 v2 v3) :: L ∧ a = [.chan none, .pointer (some ⟨rn, 0, none⟩), .chan none, .int .i64 (j : Nat), .chan none, .chan none, .chan none, .chan none, .chan none, .chan none, .chan none, .chan none, .chan none, .chan none, .chan none, .chan none, .chan none, .chan none, .chan none, .chan none, .chan none, .chan none, .chan none, .chan none, .chan none, .chan none, .chan none, .chan none, .chan none, .chan none, .chan none, .chan none, .chan none, .chan none, .chan none, .chan none, .chan none, .chan none, .chan none, .chan none, .chan none, .chan none, .chan none, .chan none, .chan none, .chan none, .chan none, .chan none, .chan none, .chan none, .chan none, .chan none, .chan none, .chan none, .chan none, .chan none, .chan none, .chan none, .chan none, .chan none, .chan none, .chan none, .chan none, .chan none, .chan none, .chan none, .chan none, .chan none, .chan none, .chan none, .chan none, .chan none, .chan none, .chan none, .chan none, .chan none, .chan none, .chan none, .chan none, .chan none, .chan none, .chan none, .chan none, .chan none, .chan none, .chan none, .chan none, .chan none, .chan none, .chan none, .chan none, .chan none, .chan none, .chan none, .chan none, .chan none, .chan none, .chan none, .chan none, .chan none, .chan none, .chan none, .chan none, .chan none, .chan none, .chan none, .chan none, .chan none, .chan none, .chan none, .chan none]) (n := ks.length) rfl ⟨0, rfl, by omega, rfl, rfl, rfl⟩ ?_
  rintro q a L' ⟨j, rfl, hj, hr, rfl, rfl⟩
  repeat refine LS.seq ?_
  refine LS.region rfl ?_
  refine OS.pure rfl (fun _ => rfl) rfl ?_
  refine OS.pure rfl (fun _ => rfl) rfl ?_
  refine OS.read rfl (e_load 0 rfl rfl rfl rfl rfl) rfl ?_
  refine OS.pure rfl (e_len hk rfl rfl rfl rfl rfl) rfl ?_
  refine OS.pure rfl (fun _ => rfl) rfl ?_
  refine OS.nil ?_
  repeat refine LS.seq ?_
  refine LS.cond rfl (fun hc => ?_) (fun hc => ?_)
  · have hc : (j : Int) < ks.length := lt_of hc
    have hjk : j < ks.length := by omega
    have hlen : (ks[j]).length ≤ 9000000000000000 := hkl _ (List.getElem_mem hjk)
    rw [List.drop_eq_getElem_cons hjk] at hr
    simp only [rise] at hr
    refine LS.skip ?_
    repeat refine LS.seq ?_
    refine LS.block ?_
    repeat refine LS.seq ?_
    refine LS.drawn noGo mixed [(0, false), (1, false), (2, false), (3, false), (4, false), (5, false), (6, false), (7, false), (8, false), (9, false), (10, false), (11, false), (12, false), (13, false), (14, false), (15, false), (16, false), (17, false), (18, false), (19, false), (20, false), (21, false), (22, false), (23, false), (24, false), (25, false), (26, false), (27, false), (28, false), (29, false), (30, false), (31, false), (32, false), (33, false)] rfl rfl (by kernel_rfl) ?_
    refine ODS.pure rfl rfl (fun _ => rfl) rfl ?_
    refine ODS.read rfl rfl (e_load 0 rfl rfl rfl rfl rfl) rfl ?_
    refine ODS.pure rfl rfl (fun _ => rfl) rfl ?_
    refine ODS.at1 (j := j) hk (tx_at hjk) rfl rfl rfl rfl rfl rfl rfl (fun r0 o0 row0 cs0 m0 c0 g0 => ⟨_, rfl, ?_⟩)
    refine ODS.read rfl rfl (e_loadm m0 c0 rfl rfl (part_one rfl g0)) rfl ?_
    refine ODS.pure rfl rfl (fun _ => rfl) rfl ?_
    by_cases hl1 : ks[j].length < 1
    · have hb1 : (!ileB 1 (ks[j].length : Int)) = true := by rw [ileB_eq]; simp; omega
      have hnil : ks[j] = [] := List.eq_nil_of_length_eq_zero (by omega)
      have hle : leT ks[j] (lastK ks j) = true := by
        rw [hnil, leT_iff]
        cases lastK ks j with
        | nil => exact .inr rfl
        | cons c s => exact .inl rfl
      rw [hle] at hr
      refine ODS.pure rfl rfl (e_is (fun _ => rfl) (congrArg Value.bool hb1)) rfl ?_
      refine ODS.pure rfl rfl (fun _ => rfl) rfl ?_
      refine ODS.skip rfl rfl rfl ?_
      refine ODS.skip rfl rfl rfl ?_
      refine ODS.skip rfl rfl rfl ?_
      refine ODS.skip rfl rfl rfl ?_
      refine ODS.skip rfl rfl rfl ?_
      refine ODS.skip rfl rfl rfl ?_
      refine ODS.skip rfl rfl rfl ?_
      refine ODS.pure rfl rfl (fun _ => rfl) rfl ?_
      refine ODS.pure rfl rfl (fun _ => rfl) rfl ?_
      refine ODS.skip rfl rfl rfl ?_
      refine ODS.skip rfl rfl rfl ?_
      refine ODS.skip rfl rfl rfl ?_
      refine ODS.skip rfl rfl rfl ?_
      refine ODS.skip rfl rfl rfl ?_
      refine ODS.skip rfl rfl rfl ?_
      refine ODS.skip rfl rfl rfl ?_
      refine ODS.skip rfl rfl rfl ?_
      refine ODS.skip rfl rfl rfl ?_
      refine ODS.skip rfl rfl rfl ?_
      refine ODS.skip rfl rfl rfl ?_
      refine ODS.skip rfl rfl rfl ?_
      refine ODS.skip rfl rfl rfl ?_
      refine ODS.skip rfl rfl rfl ?_
      refine ODS.skip rfl rfl rfl ?_
      refine ODS.skip rfl rfl rfl ?_
      refine ODS.pure rfl rfl (fun _ => rfl) rfl ?_
      refine ODS.nil ?_
      repeat refine LS.seq ?_
      refine LS.cond rfl (fun hc2 => ?_) (fun hc2 => ?_)
      · repeat refine LS.seq ?_
        refine LS.region rfl ?_
        refine OS.pure rfl (fun _ => rfl) rfl ?_
        refine OS.nil ?_
        refine LS.ret ⟨_, fun _ _ => rfl, ?_⟩
        exact ⟨by unfold mayN; rw [← hr]; rfl, _, rfl⟩
      · cases hc2
    · have hb1 : (!ileB 1 (ks[j].length : Int)) = false := by rw [ileB_eq]; simp; omega
      refine ODS.pure rfl rfl (e_is (fun _ => rfl) (congrArg Value.bool hb1)) rfl ?_
      refine ODS.pure rfl rfl (fun _ => rfl) rfl ?_
      refine ODS.pure rfl rfl (fun _ => rfl) rfl ?_
      refine ODS.read rfl rfl (e_load 0 rfl rfl rfl rfl rfl) rfl ?_
      refine ODS.pure rfl rfl (fun _ => rfl) rfl ?_
      refine ODS.at1 (j := j) hk (tx_at hjk) rfl rfl rfl rfl rfl rfl rfl (fun r1 o1 row1 cs1 m1 c1 g1 => ⟨_, rfl, ?_⟩)
      refine ODS.read rfl rfl (e_loadm m1 c1 rfl rfl (part_one rfl g1)) rfl ?_
      refine ODS.pure rfl rfl (fun _ => rfl) rfl ?_
      by_cases hl2 : 32 < ks[j].length
      · have hb2 : (!ileB (ks[j].length : Int) 32) = true := by rw [ileB_eq]; simp; omega
        rw [decide_eq_false (by omega), Bool.and_false, Bool.false_and] at hr
        refine ODS.pure rfl rfl (e_is (fun _ => rfl) (congrArg Value.bool hb2)) rfl ?_
        refine ODS.pure rfl rfl (fun _ => rfl) rfl ?_
        refine ODS.pure rfl rfl (fun _ => rfl) rfl ?_
        refine ODS.skip rfl rfl rfl ?_
        refine ODS.skip rfl rfl rfl ?_
        refine ODS.skip rfl rfl rfl ?_
        refine ODS.skip rfl rfl rfl ?_
        refine ODS.skip rfl rfl rfl ?_
        refine ODS.skip rfl rfl rfl ?_
        refine ODS.skip rfl rfl rfl ?_
        refine ODS.skip rfl rfl rfl ?_
        refine ODS.skip rfl rfl rfl ?_
        refine ODS.skip rfl rfl rfl ?_
        refine ODS.skip rfl rfl rfl ?_
        refine ODS.skip rfl rfl rfl ?_
        refine ODS.skip rfl rfl rfl ?_
        refine ODS.skip rfl rfl rfl ?_
        refine ODS.skip rfl rfl rfl ?_
        refine ODS.skip rfl rfl rfl ?_
        refine ODS.pure rfl rfl (fun _ => rfl) rfl ?_
        refine ODS.nil ?_
        repeat refine LS.seq ?_
        refine LS.cond rfl (fun hc2 => ?_) (fun hc2 => ?_)
        · repeat refine LS.seq ?_
          refine LS.region rfl ?_
          refine OS.pure rfl (fun _ => rfl) rfl ?_
          refine OS.nil ?_
          refine LS.ret ⟨_, fun _ _ => rfl, ?_⟩
          exact ⟨by unfold mayN; rw [← hr]; rfl, _, rfl⟩
        · cases hc2
      · have hb2 : (!ileB (ks[j].length : Int) 32) = false := by rw [ileB_eq]; simp; omega
        rw [decide_eq_true (by omega), Bool.and_true] at hr
        refine ODS.pure rfl rfl (e_is (fun _ => rfl) (congrArg Value.bool hb2)) rfl ?_
        refine ODS.pure rfl rfl (fun _ => rfl) rfl ?_
        refine ODS.pure rfl rfl (fun _ => rfl) rfl ?_
        refine ODS.pure rfl rfl (fun _ => rfl) rfl ?_
        by_cases h0 : j = 0
        · subst h0
          have hle : leT ks[0] (lastK ks 0) = false := by
            rw [nle_iff]
            show bytesLt [] ks[0] = true
            cases hk0 : ks[0] with
            | nil => rw [hk0] at hl1; simp at hl1
            | cons c s => rfl
          rw [hle] at hr
          have hb3 : (!ileB ((0 : Nat) : Int) 0) = false := rfl
          refine ODS.pure rfl rfl (e_is (fun _ => rfl) (congrArg Value.bool hb3)) rfl ?_
          refine ODS.pure rfl rfl (fun _ => rfl) rfl ?_
          refine ODS.skip rfl rfl rfl ?_
          refine ODS.skip rfl rfl rfl ?_
          refine ODS.skip rfl rfl rfl ?_
          refine ODS.skip rfl rfl rfl ?_
          refine ODS.skip rfl rfl rfl ?_
          refine ODS.skip rfl rfl rfl ?_
          refine ODS.skip rfl rfl rfl ?_
          refine ODS.skip rfl rfl rfl ?_
          refine ODS.skip rfl rfl rfl ?_
          refine ODS.skip rfl rfl rfl ?_
          refine ODS.skip rfl rfl rfl ?_
          refine ODS.skip rfl rfl rfl ?_
          refine ODS.pure rfl rfl (fun _ => rfl) rfl ?_
          refine ODS.pure rfl rfl (fun _ => rfl) rfl ?_
          refine ODS.nil ?_
          repeat refine LS.seq ?_
          refine LS.cond rfl (fun hc2 => ?_) (fun hc2 => ?_)
          · cases hc2
          refine LS.skip ?_
          repeat refine LS.seq ?_
          refine LS.region rfl ?_
          refine OS.pure rfl (fun _ => rfl) rfl ?_
          refine OS.pure rfl (e_add (m := 0) (n := 1) rfl rfl rfl (in_i64 (by omega) (by omega))) rfl ?_
          refine OS.pure rfl (fun _ => rfl) rfl ?_
          refine OS.nil ?_
          refine ⟨ks.length - (0 + 1), by omega, 0 + 1, rfl, by omega, ?_, rfl, rfl⟩
          rw [lastK_succ hjk, ← hr]
          simp
        · have hb3 : (!ileB (j : Int) 0) = true := by rw [ileB_eq]; simp; omega
          have hj1 : j - 1 < ks.length := by omega
          have hlast : lastK ks j = ks[j - 1] := by unfold lastK; rw [if_neg h0]; simp [hj1]
          have hpred : (j : Int) - 1 = ((j - 1 : Nat) : Int) := by omega
          refine ODS.pure rfl rfl (e_is (fun _ => rfl) (congrArg Value.bool hb3)) rfl ?_
          refine ODS.pure rfl rfl (fun _ => rfl) rfl ?_
          refine ODS.pure rfl rfl (fun _ => rfl) rfl ?_
          refine ODS.read rfl rfl (e_load 0 rfl rfl rfl rfl rfl) rfl ?_
          refine ODS.pure rfl rfl (fun _ => rfl) rfl ?_
          refine ODS.pure rfl rfl (e_is (e_sub (m := (j : Int)) (n := 1) rfl rfl rfl (in_i64 (by omega) (by omega))) (congrArg (Value.int .i64) hpred)) rfl ?_
          refine ODS.at1 (j := j - 1) hk (tx_at hj1) rfl rfl rfl rfl rfl rfl rfl (fun r2 o2 row2 cs2 m2 c2 g2 => ⟨_, rfl, ?_⟩)
          refine ODS.read rfl rfl (e_loadm m2 c2 rfl rfl (part_one rfl g2)) rfl ?_
          refine ODS.pure rfl rfl (fun _ => rfl) rfl ?_
          refine ODS.read rfl rfl (e_load 0 rfl rfl rfl rfl rfl) rfl ?_
          refine ODS.pure rfl rfl (fun _ => rfl) rfl ?_
          refine ODS.at1 (j := j) hk (tx_at hjk) rfl rfl rfl rfl rfl rfl rfl (fun r3 o3 row3 cs3 m3 c3 g3 => ⟨_, rfl, ?_⟩)
          refine ODS.read rfl rfl (e_loadm m3 c3 rfl rfl (part_one rfl g3)) rfl ?_
          rw [hlast] at hr
          cases hlt : bytesLt ks[j - 1] ks[j] with
          | true =>
            have hb4 : (!bytesLt ks[j - 1] ks[j]) = false := by rw [hlt]; rfl
            rw [nle_iff.2 hlt] at hr
            refine ODS.pure rfl rfl (e_is (fun _ => rfl) (congrArg Value.bool hb4)) rfl ?_
            refine ODS.pure rfl rfl (fun _ => rfl) rfl ?_
            refine ODS.pure rfl rfl (fun _ => rfl) rfl ?_
            refine ODS.nil ?_
            repeat refine LS.seq ?_
            refine LS.cond rfl (fun hc2 => ?_) (fun hc2 => ?_)
            · cases hc2
            refine LS.skip ?_
            repeat refine LS.seq ?_
            refine LS.region rfl ?_
            refine OS.pure rfl (fun _ => rfl) rfl ?_
            refine OS.pure rfl (e_add (m := j) (n := 1) rfl rfl rfl (in_i64 (by omega) (by omega))) rfl ?_
            refine OS.pure rfl (fun _ => rfl) rfl ?_
            refine OS.nil ?_
            refine ⟨ks.length - (j + 1), by omega, j + 1, rfl, by omega, ?_, rfl, rfl⟩
            rw [lastK_succ hjk, ← hr]
            simp
          | false =>
            have hb4 : (!bytesLt ks[j - 1] ks[j]) = true := by rw [hlt]; rfl
            have hle : leT ks[j] ks[j - 1] = true := nlt_iff.1 hlt
            rw [hle] at hr
            refine ODS.pure rfl rfl (e_is (fun _ => rfl) (congrArg Value.bool hb4)) rfl ?_
            refine ODS.pure rfl rfl (fun _ => rfl) rfl ?_
            refine ODS.pure rfl rfl (fun _ => rfl) rfl ?_
            refine ODS.nil ?_
            repeat refine LS.seq ?_
            refine LS.cond rfl (fun hc2 => ?_) (fun hc2 => ?_)
            · repeat refine LS.seq ?_
              refine LS.region rfl ?_
              refine OS.pure rfl (fun _ => rfl) rfl ?_
              refine OS.nil ?_
              refine LS.ret ⟨_, fun _ _ => rfl, ?_⟩
              exact ⟨by unfold mayN; rw [← hr]; rfl, _, rfl⟩
            · cases hc2
  have hc : (ks.length : Int) ≤ (j : Int) := nlt_of hc
  have hje : j = ks.length := by omega
  subst hje
  rw [List.drop_length] at hr
  have hr : rise [] ks = true := hr.symm
  rw [may_split lf ks vs kids hr]
  refine LS.exit ?_
  repeat refine LS.seq ?_
  refine LS.region rfl ?_
  refine OS.pure rfl (fun _ => rfl) rfl ?_
  refine OS.read rfl (e_load 0 rfl rfl rfl rfl rfl) rfl ?_
  refine OS.nil ?_
  cases lf with
  | true =>
    repeat refine LS.seq ?_
    refine LS.cond rfl (fun h => ?_) (fun h => by cases h)
    repeat refine LS.seq ?_
    refine LS.region rfl ?_
    refine OS.pure rfl (fun _ => rfl) rfl ?_
    refine OS.nil ?_
    repeat refine LS.seq ?_
    refine LS.block ?_
    refine LS.loopJ [1, 4] (fun q a L' => ∃ j : Nat, q = vs.length - j ∧ j ≤ vs.length ∧ (vs.take j).all (fun v => decide (v.length ≤ 64)) = true ∧ L' = (rn, nrRow true v1 v2 v3) :: L ∧ a = [.chan none, .pointer (some ⟨rn, 0, none⟩), .chan none, .chan none, .int .i64 (j : Nat), .chan none, .chan none, .chan none, .chan none, .chan none, .chan none, .chan none, .chan none, .chan none, .chan none, .chan none, .chan none, .chan none, .chan none, .chan none, .chan none, .chan none, .chan none, .chan none, .chan none, .chan none, .chan none, .chan none, .chan none, .chan none, .chan none, .chan none, .chan none, .chan none, .chan none, .chan none, .chan none, .chan none, .chan none, .chan none, .chan none, .chan none, .chan none, .chan none, .chan none, .chan none, .chan none, .chan none, .chan none, .chan none, .chan none, .chan none, .chan none, .chan none, .chan none, .chan none, .chan none, .chan none, .chan none, .chan none, .chan none, .chan none, .chan none, .chan none, .chan none, .chan none, .chan none, .chan none, .chan none, .chan none, .chan none, .chan none, .chan none, .chan none, .chan none, .chan none, .chan none, .chan none, .chan none, .chan none, .chan none, .chan none, .chan none, .chan none, .chan none, .chan none, .chan none, .chan none, .chan none, .chan none, .chan none, .chan none, .chan none, .chan none, .chan none, .chan none, .chan none, .chan none, .chan none, .chan none, .chan none, .chan none, .chan none, .chan none, .chan none, .chan none, .chan none, .chan none, .chan none, .chan none, .chan none]) (n := vs.length) rfl ⟨0, rfl, by omega, rfl, rfl, rfl⟩ ?_
    rintro q a L' ⟨j, rfl, hj, ha, rfl, rfl⟩
    repeat refine LS.seq ?_
    refine LS.region rfl ?_
    refine OS.pure rfl (fun _ => rfl) rfl ?_
    refine OS.pure rfl (fun _ => rfl) rfl ?_
    refine OS.read rfl (e_load 0 rfl rfl rfl rfl rfl) rfl ?_
    refine OS.pure rfl (e_len hv rfl rfl rfl rfl rfl) rfl ?_
    refine OS.pure rfl (fun _ => rfl) rfl ?_
    refine OS.nil ?_
    repeat refine LS.seq ?_
    refine LS.cond rfl (fun hc => ?_) (fun hc => ?_)
    · have hc : (j : Int) < vs.length := lt_of hc
      have hjk : j < vs.length := by omega
      have hlen : (vs[j]).length ≤ 9000000000000000 := hvl _ (List.getElem_mem hjk)
      refine LS.skip ?_
      repeat refine LS.seq ?_
      refine LS.block ?_
      repeat refine LS.seq ?_
      refine LS.region rfl ?_
      refine OS.pure rfl (fun _ => rfl) rfl ?_
      refine OS.read rfl (e_load 0 rfl rfl rfl rfl rfl) rfl ?_
      refine OS.pure rfl (fun _ => rfl) rfl ?_
      refine OS.at1 (j := j) hv (tx_at hjk) rfl rfl rfl rfl rfl rfl (fun r0 o0 row0 cs0 m0 c0 g0 => ?_)
      refine ⟨_, rfl, ?_⟩
      refine OS.read rfl (e_loadm m0 c0 rfl rfl (part_one rfl g0)) rfl ?_
      refine OS.pure rfl (fun _ => rfl) rfl ?_
      by_cases hl : 64 < vs[j].length
      · have hb : (!ileB (vs[j].length : Int) 64) = true := by rw [ileB_eq]; simp; omega
        have hall : vs.all (fun v => decide (v.length ≤ 64)) = false := by
          rw [List.all_eq_false]
          exact ⟨_, List.getElem_mem hjk, by simp; omega⟩
        refine OS.pure rfl (e_is (fun _ => rfl) (congrArg Value.bool hb)) rfl ?_
        refine OS.nil ?_
        repeat refine LS.seq ?_
        refine LS.cond rfl (fun hc2 => ?_) (fun hc2 => ?_)
        · repeat refine LS.seq ?_
          refine LS.region rfl ?_
          refine OS.pure rfl (fun _ => rfl) rfl ?_
          refine OS.nil ?_
          refine LS.ret ⟨_, fun _ _ => rfl, ?_⟩
          exact ⟨by rw [hall]; simp [tupleB], _, rfl⟩
        · cases hc2
      · have hb : (!ileB (vs[j].length : Int) 64) = false := by rw [ileB_eq]; simp; omega
        refine OS.pure rfl (e_is (fun _ => rfl) (congrArg Value.bool hb)) rfl ?_
        refine OS.nil ?_
        repeat refine LS.seq ?_
        refine LS.cond rfl (fun hc2 => ?_) (fun hc2 => ?_)
        · cases hc2
        refine LS.skip ?_
        repeat refine LS.seq ?_
        refine LS.region rfl ?_
        refine OS.pure rfl (fun _ => rfl) rfl ?_
        refine OS.pure rfl (e_add (m := j) (n := 1) rfl rfl rfl (in_i64 (by omega) (by omega))) rfl ?_
        refine OS.pure rfl (fun _ => rfl) rfl ?_
        refine OS.nil ?_
        refine ⟨vs.length - (j + 1), by omega, j + 1, rfl, by omega, ?_, rfl, rfl⟩
        rw [List.take_succ_eq_append_getElem hjk, List.all_append, ha]
        simp; omega
    have hc : (vs.length : Int) ≤ (j : Int) := nlt_of hc
    have hje : j = vs.length := by omega
    subst hje
    rw [List.take_length] at ha
    rw [ha]
    refine LS.exit ?_
    by_cases h1 : vs.length = ks.length
    · have b1 : ieqB (vs.length : Int) (ks.length : Nat) = true := ieqN.trans (decide_eq_true h1)
      have b2 : ieqB (kids.length : Int) (0 : Nat) = decide (kids.length = 0) := ieqN
      repeat refine LS.seq ?_
      refine LS.region rfl ?_
      refine OS.pure rfl (fun _ => rfl) rfl ?_
      refine OS.read rfl (e_load 0 rfl rfl rfl rfl rfl) rfl ?_
      refine OS.pure rfl (e_len hv rfl rfl rfl rfl rfl) rfl ?_
      refine OS.pure rfl (fun _ => rfl) rfl ?_
      refine OS.read rfl (e_load 0 rfl rfl rfl rfl rfl) rfl ?_
      refine OS.pure rfl (e_len hk rfl rfl rfl rfl rfl) rfl ?_
      refine OS.pure rfl (e_is (fun _ => rfl) (congrArg Value.bool b1)) rfl ?_
      refine OS.pure rfl (fun _ => rfl) rfl ?_
      refine OS.pure rfl (fun _ => rfl) rfl ?_
      refine OS.read rfl (e_load 0 rfl rfl rfl rfl rfl) rfl ?_
      refine OS.pure rfl (e_len hz rfl rfl rfl rfl rfl) rfl ?_
      refine OS.pure rfl (e_is (fun _ => rfl) (congrArg Value.bool b2)) rfl ?_
      refine OS.pure rfl (fun _ => rfl) rfl ?_
      refine OS.pure rfl (fun _ => rfl) rfl ?_
      refine OS.nil ?_
      refine LS.ret ⟨_, fun _ _ => rfl, ?_⟩
      exact ⟨by simp [h1, tupleB], _, rfl⟩
    · have b1 : ieqB (vs.length : Int) (ks.length : Nat) = false := ieqN.trans (decide_eq_false h1)
      repeat refine LS.seq ?_
      refine LS.region rfl ?_
      refine OS.pure rfl (fun _ => rfl) rfl ?_
      refine OS.read rfl (e_load 0 rfl rfl rfl rfl rfl) rfl ?_
      refine OS.pure rfl (e_len hv rfl rfl rfl rfl rfl) rfl ?_
      refine OS.pure rfl (fun _ => rfl) rfl ?_
      refine OS.read rfl (e_load 0 rfl rfl rfl rfl rfl) rfl ?_
      refine OS.pure rfl (e_len hk rfl rfl rfl rfl rfl) rfl ?_
      refine OS.pure rfl (e_is (fun _ => rfl) (congrArg Value.bool b1)) rfl ?_
      refine OS.pure rfl (fun _ => rfl) rfl ?_
      refine OS.skip rfl rfl ?_
      refine OS.skip rfl rfl ?_
      refine OS.skip rfl rfl ?_
      refine OS.skip rfl rfl ?_
      refine OS.pure rfl (fun _ => rfl) rfl ?_
      refine OS.pure rfl (fun _ => rfl) rfl ?_
      refine OS.nil ?_
      refine LS.ret ⟨_, fun _ _ => rfl, ?_⟩
      exact ⟨by simp [h1, tupleB], _, rfl⟩
  | false =>
    repeat refine LS.seq ?_
    refine LS.cond rfl (fun h => by cases h) (fun h => ?_)
    refine LS.skip ?_
    repeat refine LS.seq ?_
    refine LS.region rfl ?_
    refine OS.pure rfl (fun _ => rfl) rfl ?_
    refine OS.nil ?_
    repeat refine LS.seq ?_
    refine LS.block ?_
    refine LS.loopJ [1, 5] (fun q a L' => ∃ j : Nat, q = kids.length - j ∧ j ≤ kids.length ∧ (kids.take j).all (fun z => decide (0 ≤ z ∧ z ≤ 32768)) = true ∧ L' = (rn, nrRow false v1 v2 v3) :: L ∧ a = [.chan none, .pointer (some ⟨rn, 0, none⟩), .chan none, .chan none, .chan none, .int .i64 (j : Nat), .chan none, .chan none, .chan none, .chan none, .chan none, .chan none, .chan none, .chan none, .chan none, .chan none, .chan none, .chan none, .chan none, .chan none, .chan none, .chan none, .chan none, .chan none, .chan none, .chan none, .chan none, .chan none, .chan none, .chan none, .chan none, .chan none, .chan none, .chan none, .chan none, .chan none, .chan none, .chan none, .chan none, .chan none, .chan none, .chan none, .chan none, .chan none, .chan none, .chan none, .chan none, .chan none, .chan none, .chan none, .chan none, .chan none, .chan none, .chan none, .chan none, .chan none, .chan none, .chan none, .chan none, .chan none, .chan none, .chan none, .chan none, .chan none, .chan none, .chan none, .chan none, .chan none, .chan none, .chan none, .chan none, .chan none, .chan none, .chan none, .chan none, .chan none, .chan none, .chan none, .chan none, .chan none, .chan none, .chan none, .chan none, .chan none, .chan none, .chan none, .chan none, .chan none, .chan none, .chan none, .chan none, .chan none, .chan none, .chan none, .chan none, .chan none, .chan none, .chan none, .chan none, .chan none, .chan none, .chan none, .chan none, .chan none, .chan none, .chan none, .chan none, .chan none, .chan none, .chan none, .chan none]) (n := kids.length) rfl ⟨0, rfl, by omega, rfl, rfl, rfl⟩ ?_
    rintro q a L' ⟨j, rfl, hj, ha, rfl, rfl⟩
    repeat refine LS.seq ?_
    refine LS.region rfl ?_
    refine OS.pure rfl (fun _ => rfl) rfl ?_
    refine OS.pure rfl (fun _ => rfl) rfl ?_
    refine OS.read rfl (e_load 0 rfl rfl rfl rfl rfl) rfl ?_
    refine OS.pure rfl (e_len hz rfl rfl rfl rfl rfl) rfl ?_
    refine OS.pure rfl (fun _ => rfl) rfl ?_
    refine OS.nil ?_
    repeat refine LS.seq ?_
    refine LS.cond rfl (fun hc => ?_) (fun hc => ?_)
    · have hc : (j : Int) < kids.length := lt_of hc
      have hjk : j < kids.length := by omega
      refine LS.skip ?_
      repeat refine LS.seq ?_
      refine LS.block ?_
      repeat refine LS.seq ?_
      refine LS.region rfl ?_
      refine OS.pure rfl (fun _ => rfl) rfl ?_
      refine OS.read rfl (e_load 0 rfl rfl rfl rfl rfl) rfl ?_
      refine OS.pure rfl (fun _ => rfl) rfl ?_
      refine OS.at1 (j := j) hz (nums_at hjk) rfl rfl rfl rfl rfl rfl (fun r0 o0 row0 cs0 m0 c0 g0 => ?_)
      refine ⟨_, rfl, ?_⟩
      refine OS.read rfl (e_loadm m0 c0 rfl rfl (part_one rfl g0)) rfl ?_
      by_cases hl : kids[j] < 0
      · have hb : (!ileB 0 kids[j]) = true := by rw [ileB_eq]; simp; omega
        have hall : kids.all (fun z => decide (0 ≤ z ∧ z ≤ 32768)) = false := by
          rw [List.all_eq_false]
          exact ⟨_, List.getElem_mem hjk, by simp; omega⟩
        refine OS.pure rfl (e_is (fun _ => rfl) (congrArg Value.bool hb)) rfl ?_
        refine OS.pure rfl (fun _ => rfl) rfl ?_
        refine OS.skip rfl rfl ?_
        refine OS.skip rfl rfl ?_
        refine OS.skip rfl rfl ?_
        refine OS.skip rfl rfl ?_
        refine OS.skip rfl rfl ?_
        refine OS.skip rfl rfl ?_
        refine OS.pure rfl (fun _ => rfl) rfl ?_
        refine OS.nil ?_
        repeat refine LS.seq ?_
        refine LS.cond rfl (fun hc2 => ?_) (fun hc2 => ?_)
        · repeat refine LS.seq ?_
          refine LS.region rfl ?_
          refine OS.pure rfl (fun _ => rfl) rfl ?_
          refine OS.nil ?_
          refine LS.ret ⟨_, fun _ _ => rfl, ?_⟩
          exact ⟨by rw [hall]; simp [tupleB], _, rfl⟩
        · cases hc2
      · have hb : (!ileB 0 kids[j]) = false := by rw [ileB_eq]; simp; omega
        refine OS.pure rfl (e_is (fun _ => rfl) (congrArg Value.bool hb)) rfl ?_
        refine OS.pure rfl (fun _ => rfl) rfl ?_
        refine OS.pure rfl (fun _ => rfl) rfl ?_
        refine OS.read rfl (e_load 0 rfl rfl rfl rfl rfl) rfl ?_
        refine OS.pure rfl (fun _ => rfl) rfl ?_
        refine OS.at1 (j := j) hz (nums_at hjk) rfl rfl rfl rfl rfl rfl (fun r1 o1 row1 cs1 m1 c1 g1 => ?_)
        refine ⟨_, rfl, ?_⟩
        refine OS.read rfl (e_loadm m1 c1 rfl rfl (part_one rfl g1)) rfl ?_
        by_cases hl2 : 32768 < kids[j]
        · have hb2 : (!ileB kids[j] 32768) = true := by rw [ileB_eq]; simp; omega
          have hall : kids.all (fun z => decide (0 ≤ z ∧ z ≤ 32768)) = false := by
            rw [List.all_eq_false]
            exact ⟨_, List.getElem_mem hjk, by simp; omega⟩
          refine OS.pure rfl (e_is (fun _ => rfl) (congrArg Value.bool hb2)) rfl ?_
          refine OS.pure rfl (fun _ => rfl) rfl ?_
          refine OS.nil ?_
          repeat refine LS.seq ?_
          refine LS.cond rfl (fun hc2 => ?_) (fun hc2 => ?_)
          · repeat refine LS.seq ?_
            refine LS.region rfl ?_
            refine OS.pure rfl (fun _ => rfl) rfl ?_
            refine OS.nil ?_
            refine LS.ret ⟨_, fun _ _ => rfl, ?_⟩
            exact ⟨by rw [hall]; simp [tupleB], _, rfl⟩
          · cases hc2
        · have hb2 : (!ileB kids[j] 32768) = false := by rw [ileB_eq]; simp; omega
          refine OS.pure rfl (e_is (fun _ => rfl) (congrArg Value.bool hb2)) rfl ?_
          refine OS.pure rfl (fun _ => rfl) rfl ?_
          refine OS.nil ?_
          repeat refine LS.seq ?_
          refine LS.cond rfl (fun hc2 => ?_) (fun hc2 => ?_)
          · cases hc2
          refine LS.skip ?_
          repeat refine LS.seq ?_
          refine LS.region rfl ?_
          refine OS.pure rfl (fun _ => rfl) rfl ?_
          refine OS.pure rfl (e_add (m := j) (n := 1) rfl rfl rfl (in_i64 (by omega) (by omega))) rfl ?_
          refine OS.pure rfl (fun _ => rfl) rfl ?_
          refine OS.nil ?_
          refine ⟨kids.length - (j + 1), by omega, j + 1, rfl, by omega, ?_, rfl, rfl⟩
          rw [List.take_succ_eq_append_getElem hjk, List.all_append, ha]
          simp; omega
    have hc : (kids.length : Int) ≤ (j : Int) := nlt_of hc
    have hje : j = kids.length := by omega
    subst hje
    rw [List.take_length] at ha
    rw [ha]
    refine LS.exit ?_
    by_cases h1 : kids.length = ks.length + 1
    · have b1 : ieqB (kids.length : Int) ((ks.length + 1 : Nat) : Int) = true := ieqN.trans (decide_eq_true h1)
      have b2 : ieqB (vs.length : Int) (0 : Nat) = decide (vs.length = 0) := ieqN
      repeat refine LS.seq ?_
      refine LS.region rfl ?_
      refine OS.pure rfl (fun _ => rfl) rfl ?_
      refine OS.read rfl (e_load 0 rfl rfl rfl rfl rfl) rfl ?_
      refine OS.pure rfl (e_len hz rfl rfl rfl rfl rfl) rfl ?_
      refine OS.pure rfl (fun _ => rfl) rfl ?_
      refine OS.read rfl (e_load 0 rfl rfl rfl rfl rfl) rfl ?_
      refine OS.pure rfl (e_len hk rfl rfl rfl rfl rfl) rfl ?_
      refine OS.pure rfl (e_add (m := ks.length) (n := 1) rfl rfl rfl (in_i64 (by omega) (by omega))) rfl ?_
      refine OS.pure rfl (e_is (fun _ => rfl) (congrArg Value.bool b1)) rfl ?_
      refine OS.pure rfl (fun _ => rfl) rfl ?_
      refine OS.pure rfl (fun _ => rfl) rfl ?_
      refine OS.read rfl (e_load 0 rfl rfl rfl rfl rfl) rfl ?_
      refine OS.pure rfl (e_len hv rfl rfl rfl rfl rfl) rfl ?_
      refine OS.pure rfl (e_is (fun _ => rfl) (congrArg Value.bool b2)) rfl ?_
      refine OS.pure rfl (fun _ => rfl) rfl ?_
      refine OS.pure rfl (fun _ => rfl) rfl ?_
      refine OS.nil ?_
      refine LS.ret ⟨_, fun _ _ => rfl, ?_⟩
      exact ⟨by simp [h1, tupleB], _, rfl⟩
    · have b1 : ieqB (kids.length : Int) ((ks.length + 1 : Nat) : Int) = false := ieqN.trans (decide_eq_false h1)
      repeat refine LS.seq ?_
      refine LS.region rfl ?_
      refine OS.pure rfl (fun _ => rfl) rfl ?_
      refine OS.read rfl (e_load 0 rfl rfl rfl rfl rfl) rfl ?_
      refine OS.pure rfl (e_len hz rfl rfl rfl rfl rfl) rfl ?_
      refine OS.pure rfl (fun _ => rfl) rfl ?_
      refine OS.read rfl (e_load 0 rfl rfl rfl rfl rfl) rfl ?_
      refine OS.pure rfl (e_len hk rfl rfl rfl rfl rfl) rfl ?_
      refine OS.pure rfl (e_add (m := ks.length) (n := 1) rfl rfl rfl (in_i64 (by omega) (by omega))) rfl ?_
      refine OS.pure rfl (e_is (fun _ => rfl) (congrArg Value.bool b1)) rfl ?_
      refine OS.pure rfl (fun _ => rfl) rfl ?_
      refine OS.skip rfl rfl ?_
      refine OS.skip rfl rfl ?_
      refine OS.skip rfl rfl ?_
      refine OS.skip rfl rfl ?_
      refine OS.pure rfl (fun _ => rfl) rfl ?_
      refine OS.pure rfl (fun _ => rfl) rfl ?_
      refine OS.nil ?_
      refine LS.ret ⟨_, fun _ _ => rfl, ?_⟩
      exact ⟨by simp [h1, tupleB], _, rfl⟩
end Go.Proofs.Ytdffhllecojgcaa
