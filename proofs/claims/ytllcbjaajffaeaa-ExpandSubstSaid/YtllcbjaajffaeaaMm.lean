/- Layer 14: Vars; Same; the laws' large, long, given. -/
import Derived.Test.YtllcbjaajffaeaaMl
namespace Go.Proofs.Ytllcbjaajffaeaa
open Go.Am Go.Mx
set_option linter.unusedVariables false
set_option linter.unusedSimpArgs false
set_option maxRecDepth 20000
set_option maxHeartbeats 4000000
attribute [local irreducible] OS LSr ODS CS YS OGS OT
theorem Same02_ct {L : RL} {v w : Value} {ws : List W} (hv : SV 1 L v ws.length (strs ws)) (hw : SV 1 L w ws.length (strs ws)) (hn : ws.length ≤ 100000000) : CS Try.prog 25 [v, w] L fun u L' => u = .bool true ∧ L' = L := by
  refine CS.mk (fn := Try.f25) rfl rfl rfl rfl ?_
  have b0 : (!ieqB ((ws.length : Nat) : Int) (ws.length : Nat)) = false := by rw [ieqB_eq]; simp
  refine yG ?_
  refine LS.loopJ [0, 1, 5] (fun q a L' => ∃ k : Nat, q = ws.length - k ∧ k ≤ ws.length ∧ L' = L ∧ a = [v, w, .chan none, .chan none, .chan none, .int .i64 (k : Nat), .chan none, .chan none, .chan none, .chan none, .chan none, .chan none, .chan none, .chan none, .chan none, .chan none, .chan none, .chan none, .chan none, .chan none, .chan none, .chan none, .chan none, .chan none, .chan none, .chan none]) (n := ws.length) rfl ⟨0, rfl, by omega, rfl, rfl⟩ ?_
  rintro q a L' ⟨k, rfl, hk, hL, rfl⟩
  rw [hL]
  clear hL
  refine yG ?_
  repeat refine LS.seq ?_
  refine LS.cond rfl (fun hc => ?_) (fun hc => ?_)
  · have hc := lt_of hc
    obtain ⟨s, hg⟩ := ext_list (l := ws) (k := k) (by omega)
    have b1 : (!bytesEq s s) = false := by rw [beq_bytes]; simp
    refine LS.skip ?_
    refine yG ?_
    repeat refine LS.seq ?_
    refine LS.drawn noGo mixed [(0, false), (1, false), (2, false), (3, false), (4, false), (5, false), (6, false), (7, false), (8, false)] rfl rfl (by kernel_rfl) ?_
    refine yG ?_
    refine ODS.at1 (j := k) (hv) (strs_at hg) rfl rfl rfl rfl rfl rfl rfl (fun ra0 oa0 rowa0 csa0 ma0 ca0 ga0 => ⟨_, rfl, ?_⟩)
    refine ODS.read rfl rfl (e_loadm ma0 ca0 rfl rfl (part_one rfl ga0)) rfl ?_
    refine yG ?_
    refine ODS.at1 (j := k) (hw) (strs_at hg) rfl rfl rfl rfl rfl rfl rfl (fun ra2 oa2 rowa2 csa2 ma2 ca2 ga2 => ⟨_, rfl, ?_⟩)
    refine ODS.read rfl rfl (e_loadm ma2 ca2 rfl rfl (part_one rfl ga2)) rfl ?_
    refine yG ?_
    exact ⟨ws.length - (k + 1), by omega, k + 1, rfl, by omega, rfl, rfl⟩
  · refine LS.exit ?_
    refine yG ?_
    exact ⟨rfl, rfl⟩
theorem Same14_ct {L : RL} {v w : Value} {R : List (List W)} (hv : LL L v R) (hw : LL L w R) (hn : R.length ≤ 1000000) (hm : ∀ r, r ∈ R → r.length ≤ 1000000) : CS Try.prog 18 [v, w] L fun u L' => u = .bool true ∧ L' = L := by
  obtain ⟨vs, hv1, hv2⟩ := hv
  obtain ⟨vt, hw1, hw2⟩ := hw
  refine CS.mk (fn := Try.f18) rfl rfl rfl rfl ?_
  have b0 : (!ieqB ((R.length : Nat) : Int) (R.length : Nat)) = false := by rw [ieqB_eq]; simp
  refine yG ?_
  refine LS.loopJ [0, 1, 5] (fun q a L' => ∃ k : Nat, q = R.length - k ∧ k ≤ R.length ∧ L' = L ∧ a = [v, w, .chan none, .chan none, .chan none, .int .i64 (k : Nat), .chan none, .chan none, .chan none, .chan none, .chan none, .chan none, .chan none, .chan none, .chan none, .chan none, .chan none, .chan none, .chan none, .chan none, .chan none, .chan none, .chan none, .chan none, .chan none, .chan none, .chan none, .chan none, .chan none, .chan none, .chan none, .chan none, .chan none, .chan none, .chan none, .chan none, .chan none, .chan none, .chan none, .chan none, .chan none, .chan none, .chan none, .chan none, .chan none, .chan none, .chan none, .chan none, .chan none, .chan none, .chan none, .chan none, .chan none]) (n := R.length) rfl ⟨0, rfl, by omega, rfl, rfl⟩ ?_
  rintro q a L' ⟨k, rfl, hk, hL, rfl⟩
  rw [hL]
  clear hL
  refine yG ?_
  repeat refine LS.seq ?_
  refine LS.cond rfl (fun hc => ?_) (fun hc => ?_)
  · have hc := lt_of hc
    obtain ⟨r, hr⟩ := ext_list (l := R) (k := k) (by omega)
    have hrm := hm r (List.mem_of_getElem? hr)
    obtain ⟨x, hx1, hx2⟩ := hv2 k r hr
    obtain ⟨y, hy1, hy2⟩ := hw2 k r hr
    have b1 : (!ieqB ((r.length : Nat) : Int) (r.length : Nat)) = false := by rw [ieqB_eq]; simp
    refine LS.skip ?_
    refine yG ?_
    repeat refine LS.seq ?_
    refine LS.drawn noGo mixed [(0, false), (1, false), (2, false), (3, false), (4, false), (5, false), (6, false), (7, false), (8, false), (9, false), (10, false)] rfl rfl (by kernel_rfl) ?_
    refine yG ?_
    refine ODS.at1 (j := k) (hv1) (hx1) rfl rfl rfl rfl rfl rfl rfl (fun ra0 oa0 rowa0 csa0 ma0 ca0 ga0 => ⟨_, rfl, ?_⟩)
    refine ODS.read rfl rfl (e_loadm ma0 ca0 rfl rfl (part_one rfl ga0)) rfl ?_
    refine ODS.pure rfl rfl (e_len hx2 rfl rfl rfl rfl rfl) rfl ?_
    refine yG ?_
    refine ODS.at1 (j := k) (hw1) (hy1) rfl rfl rfl rfl rfl rfl rfl (fun ra2 oa2 rowa2 csa2 ma2 ca2 ga2 => ⟨_, rfl, ?_⟩)
    refine ODS.read rfl rfl (e_loadm ma2 ca2 rfl rfl (part_one rfl ga2)) rfl ?_
    refine ODS.pure rfl rfl (e_len hy2 rfl rfl rfl rfl rfl) rfl ?_
    refine yG ?_
    refine LS.loopJ [0, 1, 5, 6] (fun q a L' => ∃ j : Nat, q = r.length - j ∧ j ≤ r.length ∧ L' = L ∧ a = [v, w, .chan none, .chan none, .chan none, .int .i64 (k : Nat), .int .i64 (j : Nat), .chan none, .chan none, .chan none, .chan none, .chan none, .chan none, .chan none, .chan none, .chan none, .chan none, .chan none, .chan none, .chan none, .chan none, .chan none, .chan none, .chan none, .chan none, .chan none, .chan none, .chan none, .chan none, .chan none, .chan none, .chan none, .chan none, .chan none, .chan none, .chan none, .chan none, .chan none, .chan none, .chan none, .chan none, .chan none, .chan none, .chan none, .chan none, .chan none, .chan none, .chan none, .chan none, .chan none, .chan none, .chan none, .chan none]) (n := r.length) rfl ⟨0, rfl, by omega, rfl, rfl⟩ ?_
    rintro q a L' ⟨j, rfl, hj, hL, rfl⟩
    rw [hL]
    clear hL
    refine yG ?_
    refine OS.at1 (j := k) (hv1) (hx1) rfl rfl rfl rfl rfl rfl (fun ra0 oa0 rowa0 csa0 ma0 ca0 ga0 => ⟨_, rfl, ?_⟩)
    refine OS.read rfl (e_loadm ma0 ca0 rfl rfl (part_one rfl ga0)) rfl ?_
    refine OS.pure rfl (e_len hx2 rfl rfl rfl rfl rfl) rfl ?_
    refine yG ?_
    repeat refine LS.seq ?_
    refine LS.cond rfl (fun hc2 => ?_) (fun hc2 => ?_)
    · have hc2 := lt_of hc2
      obtain ⟨s, hg⟩ := ext_list (l := r) (k := j) (by omega)
      have b2 : (!bytesEq s s) = false := by rw [beq_bytes]; simp
      refine LS.skip ?_
      refine yG ?_
      repeat refine LS.seq ?_
      refine LS.drawn noGo mixed [(0, false), (1, false), (2, false), (3, false), (4, false), (5, false), (6, false), (7, false), (8, false), (9, false), (10, false), (11, false), (12, false), (13, false), (14, false)] rfl rfl (by kernel_rfl) ?_
      refine yG ?_
      refine ODS.at1 (j := k) (hv1) (hx1) rfl rfl rfl rfl rfl rfl rfl (fun ra3 oa3 rowa3 csa3 ma3 ca3 ga3 => ⟨_, rfl, ?_⟩)
      refine ODS.read rfl rfl (e_loadm ma3 ca3 rfl rfl (part_one rfl ga3)) rfl ?_
      refine yG ?_
      refine ODS.at1 (j := j) (hx2) (strs_at hg) rfl rfl rfl rfl rfl rfl rfl (fun ra4 oa4 rowa4 csa4 ma4 ca4 ga4 => ⟨_, rfl, ?_⟩)
      refine ODS.read rfl rfl (e_loadm ma4 ca4 rfl rfl (part_one rfl ga4)) rfl ?_
      refine yG ?_
      refine ODS.at1 (j := k) (hw1) (hy1) rfl rfl rfl rfl rfl rfl rfl (fun ra5 oa5 rowa5 csa5 ma5 ca5 ga5 => ⟨_, rfl, ?_⟩)
      refine ODS.read rfl rfl (e_loadm ma5 ca5 rfl rfl (part_one rfl ga5)) rfl ?_
      refine yG ?_
      refine ODS.at1 (j := j) (hy2) (strs_at hg) rfl rfl rfl rfl rfl rfl rfl (fun ra6 oa6 rowa6 csa6 ma6 ca6 ga6 => ⟨_, rfl, ?_⟩)
      refine ODS.read rfl rfl (e_loadm ma6 ca6 rfl rfl (part_one rfl ga6)) rfl ?_
      refine yG ?_
      exact ⟨r.length - (j + 1), by omega, j + 1, rfl, by omega, rfl, rfl⟩
    · refine LS.exit ?_
      refine yG ?_
      exact ⟨R.length - (k + 1), by omega, k + 1, rfl, by omega, rfl, rfl⟩
  · refine LS.exit ?_
    refine yG ?_
    exact ⟨rfl, rfl⟩
theorem long_ct {L : RL} {v : Value} {ws : List W} (hv : SV 1 L v ws.length (strs ws)) (hn : ws.length ≤ 140737488355328) (hw : ∀ w ∈ ws, w.length ≤ 140737488355328) :
    CS Try.prog 13 [v] L fun u L' => ∃ b, u = .bool b ∧ (b = false → ws.length ≤ 3000) ∧ L' = L := by
  refine CS.mk (fn := Try.f13) rfl rfl rfl rfl ?_
  refine yG ?_
  refine LS.loopJ [0, 3, 4] (fun q a L' => ∃ (j m : Nat), q = ws.length - j ∧ j ≤ ws.length ∧ j ≤ 1000 ∧ m ≤ ws.length + j * 140737488355328 ∧ ws.length ≤ m ∧ L' = L ∧ a = [v, .chan none, .chan none, .int .i64 (m : Nat), .int .i64 (j : Nat), .chan none, .chan none, .chan none, .chan none, .chan none, .chan none, .chan none, .chan none, .chan none, .chan none, .chan none, .chan none, .chan none, .chan none, .chan none, .chan none, .chan none, .chan none, .chan none, .chan none, .chan none]) (n := ws.length) rfl ⟨0, ws.length, rfl, by omega, by omega, by omega, by omega, rfl, rfl⟩ ?_
  rintro q a L' ⟨j, m, rfl, hj, hj1, hm, hm2, hL, rfl⟩
  rw [hL]
  clear hL
  by_cases hc : j < ws.length
  · have b1 : (!ileB ((ws.length : Nat) : Int) (j : Nat)) = true := by rw [ileB_eq]; simp; omega
    by_cases hk : j < 1000
    · have b2 : (!ileB 1000 ((j : Nat) : Int)) = true := by rw [ileB_eq]; simp; omega
      obtain ⟨w, hg⟩ := ext_list (l := ws) (k := j) (by omega)
      have hwl := hw w (List.mem_of_getElem? hg)
      refine yG ?_
      refine OS.at1 (j := j) (hv) (strs_at hg) rfl rfl rfl rfl rfl rfl (fun ra0 oa0 rowa0 csa0 ma0 ca0 ga0 => ⟨_, rfl, ?_⟩)
      refine OS.read rfl (e_loadm ma0 ca0 rfl rfl (part_one rfl ga0)) rfl ?_
      refine yG ?_
      exact ⟨ws.length - (j + 1), by omega, j + 1, m + w.length, rfl, by omega, by omega, by omega, by omega, rfl, rfl⟩
    · have b2 : (!ileB 1000 ((j : Nat) : Int)) = false := by rw [ileB_eq]; simp; omega
      refine yG ?_
      refine LS.exit ?_
      rcases tf (!ileB ((m : Nat) : Int) 3000) with k2 | k2
      · refine yG ?_
        exact ⟨fun h => (by cases h), rfl⟩
      · have := nlt_of k2
        refine yG ?_
        exact ⟨fun h => by omega, rfl⟩
  · have b1 : (!ileB ((ws.length : Nat) : Int) (j : Nat)) = false := by rw [ileB_eq]; simp; omega
    refine yG ?_
    refine LS.exit ?_
    rcases tf (!ileB ((m : Nat) : Int) 3000) with k2 | k2
    · refine yG ?_
      exact ⟨fun h => (by cases h), rfl⟩
    · have := nlt_of k2
      refine yG ?_
      exact ⟨fun h => by omega, rfl⟩
theorem large_ct {L : RL} {v : Value} {l : List Ax} {cs : List Value} (hv : SV 2 L v l.length cs) (hx : AxR L l cs) (hn : l.length ≤ 140737488355328) (hm : ∀ x, x ∈ l → x.1.length ≤ 140737488355328 ∧ x.2.length ≤ 140737488355328 ∧ ∀ w, w ∈ x.2 → w.length ≤ 140737488355328) :
    CS Try.prog 12 [v] L fun u L' => ∃ b, u = .bool b ∧ (b = false → l.length ≤ 3000) ∧ L' = L := by
  refine CS.mk (fn := Try.f12) rfl rfl rfl rfl ?_
  refine yG ?_
  refine LS.loopJ [0, 3, 4] (fun q a L' => ∃ (i m : Nat), q = l.length - i ∧ i ≤ l.length ∧ i ≤ 100 ∧ m ≤ l.length + i * 14355223812243456 ∧ l.length ≤ m ∧ L' = L ∧ a = [v, .chan none, .chan none, .int .i64 (m : Nat), .int .i64 (i : Nat), .chan none, .chan none, .chan none, .chan none, .chan none, .chan none, .chan none, .chan none, .chan none, .chan none, .chan none, .chan none, .chan none, .chan none, .chan none, .chan none, .chan none, .chan none, .chan none, .chan none, .chan none, .chan none, .chan none, .chan none, .chan none, .chan none, .chan none, .chan none, .chan none, .chan none, .chan none, .chan none, .chan none, .chan none, .chan none, .chan none, .chan none, .chan none, .chan none, .chan none, .chan none, .chan none, .chan none, .chan none, .chan none, .chan none, .chan none, .chan none, .chan none, .chan none, .chan none, .chan none, .chan none, .chan none, .chan none]) (n := l.length) rfl ⟨0, l.length, rfl, by omega, by omega, by omega, by omega, rfl, rfl⟩ ?_
  rintro q a L' ⟨i, m, rfl, hi, hi1, hm1, hm2, hL, rfl⟩
  rw [hL]
  clear hL
  by_cases hc : i < l.length
  · have b1 : (!ileB ((l.length : Nat) : Int) (i : Nat)) = true := by rw [ileB_eq]; simp; omega
    by_cases hk : i < 100
    · have b2 : (!ileB 100 ((i : Nat) : Int)) = true := by rw [ileB_eq]; simp; omega
      obtain ⟨x, hxi⟩ := ext_list (l := l) (k := i) hc
      obtain ⟨hx1, hx2, hx3⟩ := hm x (List.mem_of_getElem? hxi)
      obtain ⟨g0, b, g1, g2, g3⟩ := hx.get hxi
      refine yG ?_
      repeat refine LS.seq ?_
      refine LS.drawn noGo mixed [(0, false), (1, false), (2, false), (3, false), (4, false), (5, false), (6, false), (7, false), (8, false), (9, false), (10, false), (11, false), (12, false), (13, false), (14, false), (15, false)] rfl rfl (by kernel_rfl) ?_
      refine yG ?_
      refine ODS.at (j := i) hv (by omega) rfl rfl rfl rfl rfl rfl rfl (fun r0 o0 row0 cs0 m0 c0 h0 k0 => ?_)
      refine ⟨_, rfl, ?_⟩
      refine yG ?_
      refine ODS.read rfl rfl (e_loadm m0 c0 rfl rfl (part_one rfl (h0 1 _ (by omega) g1))) rfl ?_
      refine ODS.pure rfl rfl (e_len g2 rfl rfl rfl rfl rfl) rfl ?_
      refine yG ?_
      refine ODS.at (j := i) hv (by omega) rfl rfl rfl rfl rfl rfl rfl (fun r1 o1 row1 cs1 m1 c1 h1 k1 => ?_)
      refine ⟨_, rfl, ?_⟩
      refine yG ?_
      refine ODS.read rfl rfl (e_loadm m1 c1 rfl rfl (part_one rfl (h1 0 _ (by omega) g0))) rfl ?_
      refine yG ?_
      refine LS.loopJ [0, 3, 4, 5] (fun q a L' => ∃ (j p : Nat), q = x.2.length - j ∧ j ≤ x.2.length ∧ j ≤ 100 ∧ p ≤ m + x.2.length + x.1.length + j * 140737488355328 ∧ m ≤ p ∧ L' = L ∧ a = [v, .chan none, .chan none, .int .i64 (p : Nat), .int .i64 (i : Nat), .int .i64 (j : Nat), .chan none, .chan none, .chan none, .chan none, .chan none, .chan none, .chan none, .chan none, .chan none, .chan none, .chan none, .chan none, .chan none, .chan none, .chan none, .chan none, .chan none, .chan none, .chan none, .chan none, .chan none, .chan none, .chan none, .chan none, .chan none, .chan none, .chan none, .chan none, .chan none, .chan none, .chan none, .chan none, .chan none, .chan none, .chan none, .chan none, .chan none, .chan none, .chan none, .chan none, .chan none, .chan none, .chan none, .chan none, .chan none, .chan none, .chan none, .chan none, .chan none, .chan none, .chan none, .chan none, .chan none, .chan none]) (n := x.2.length) rfl ⟨0, m + x.2.length + x.1.length, rfl, by omega, by omega, by omega, by omega, rfl, rfl⟩ ?_
      rintro q a L' ⟨j, p, rfl, hj, hj1, hp1, hp2, hL, rfl⟩
      rw [hL]
      clear hL
      by_cases hc2 : j < x.2.length
      · have b3 : (!ileB ((x.2.length : Nat) : Int) (j : Nat)) = true := by rw [ileB_eq]; simp; omega
        by_cases hk2 : j < 100
        · have b4 : (!ileB 100 ((j : Nat) : Int)) = true := by rw [ileB_eq]; simp; omega
          obtain ⟨w, hwj⟩ := ext_list (l := x.2) (k := j) hc2
          have hwl := hx3 w (List.mem_of_getElem? hwj)
          refine yG ?_
          refine OS.at (j := i) hv (by omega) rfl rfl rfl rfl rfl rfl (fun r2 o2 row2 cs2 m2 c2 h2 k2 => ?_)
          refine ⟨_, rfl, ?_⟩
          refine yG ?_
          refine OS.read rfl (e_loadm m2 c2 rfl rfl (part_one rfl (h2 1 _ (by omega) g1))) rfl ?_
          refine OS.pure rfl (e_len g2 rfl rfl rfl rfl rfl) rfl ?_
          refine yG ?_
          refine OS.at (j := i) hv (by omega) rfl rfl rfl rfl rfl rfl (fun r3 o3 row3 cs3 m3 c3 h3 k3 => ?_)
          refine ⟨_, rfl, ?_⟩
          refine yG ?_
          refine OS.read rfl (e_loadm m3 c3 rfl rfl (part_one rfl (h3 1 _ (by omega) g1))) rfl ?_
          refine yG ?_
          refine OS.at1 (j := j) (g2) (strs_at hwj) rfl rfl rfl rfl rfl rfl (fun ra0 oa0 rowa0 csa0 ma0 ca0 ga0 => ⟨_, rfl, ?_⟩)
          refine OS.read rfl (e_loadm ma0 ca0 rfl rfl (part_one rfl ga0)) rfl ?_
          refine yG ?_
          exact ⟨x.2.length - (j + 1), by omega, j + 1, p + w.length, rfl, by omega, by omega, by omega, by omega, rfl, rfl⟩
        · have b4 : (!ileB 100 ((j : Nat) : Int)) = false := by rw [ileB_eq]; simp; omega
          refine yG ?_
          refine OS.at (j := i) hv (by omega) rfl rfl rfl rfl rfl rfl (fun r2 o2 row2 cs2 m2 c2 h2 k2 => ?_)
          refine ⟨_, rfl, ?_⟩
          refine yG ?_
          refine OS.read rfl (e_loadm m2 c2 rfl rfl (part_one rfl (h2 1 _ (by omega) g1))) rfl ?_
          refine OS.pure rfl (e_len g2 rfl rfl rfl rfl rfl) rfl ?_
          refine yG ?_
          refine LS.exit ?_
          refine yG ?_
          exact ⟨l.length - (i + 1), by omega, i + 1, p, rfl, by omega, by omega, by omega, by omega, rfl, rfl⟩
      · have b3 : (!ileB ((x.2.length : Nat) : Int) (j : Nat)) = false := by rw [ileB_eq]; simp; omega
        refine yG ?_
        refine OS.at (j := i) hv (by omega) rfl rfl rfl rfl rfl rfl (fun r2 o2 row2 cs2 m2 c2 h2 k2 => ?_)
        refine ⟨_, rfl, ?_⟩
        refine yG ?_
        refine OS.read rfl (e_loadm m2 c2 rfl rfl (part_one rfl (h2 1 _ (by omega) g1))) rfl ?_
        refine OS.pure rfl (e_len g2 rfl rfl rfl rfl rfl) rfl ?_
        refine yG ?_
        refine LS.exit ?_
        refine yG ?_
        exact ⟨l.length - (i + 1), by omega, i + 1, p, rfl, by omega, by omega, by omega, by omega, rfl, rfl⟩
    · have b2 : (!ileB 100 ((i : Nat) : Int)) = false := by rw [ileB_eq]; simp; omega
      refine yG ?_
      refine LS.exit ?_
      rcases tf (!ileB ((m : Nat) : Int) 3000) with k2 | k2
      · refine yG ?_
        exact ⟨fun h => (by cases h), rfl⟩
      · have := nlt_of k2
        refine yG ?_
        exact ⟨fun h => by omega, rfl⟩
  · have b1 : (!ileB ((l.length : Nat) : Int) (i : Nat)) = false := by rw [ileB_eq]; simp; omega
    refine yG ?_
    refine LS.exit ?_
    rcases tf (!ileB ((m : Nat) : Int) 3000) with k2 | k2
    · refine yG ?_
      exact ⟨fun h => (by cases h), rfl⟩
    · have := nlt_of k2
      refine yG ?_
      exact ⟨fun h => by omega, rfl⟩
end Go.Proofs.Ytllcbjaajffaeaa
