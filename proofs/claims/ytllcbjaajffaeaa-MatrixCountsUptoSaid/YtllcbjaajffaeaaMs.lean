/- Layer 14: the law MatrixCounts. -/
import Derived.Test.YtllcbjaajffaeaaMr
namespace Go.Mx
theorem rows_in : ∀ (l : List (List B)) (r : List B), r ∈ rowsL l → ∀ w, w ∈ r → ∃ vs, vs ∈ l ∧ w ∈ vs
  | [], r, h, w, hw => by simp [rowsL] at h; subst h; cases hw
  | vs :: l, r, h, w, hw => by
    simp only [rowsL, List.mem_flatMap, List.mem_map] at h
    obtain ⟨v, hv, q, hq, rfl⟩ := h
    rcases List.mem_cons.1 hw with rfl | hw
    · exact ⟨vs, List.mem_cons_self .., hv⟩
    · obtain ⟨us, h1, h2⟩ := rows_in l q hq w hw
      exact ⟨us, List.mem_cons_of_mem _ h1, h2⟩
theorem rows_apart {l : List (List B)} (ha : ∀ vs, vs ∈ l → apart1 vs) {i k : Nat} {r q : List B} (hi : (rowsL l)[i]? = some r) (hk : (rowsL l)[k]? = some q) (h : r = q) : i = k := by
  have hil := (List.getElem?_eq_some_iff.1 hi).1
  have hkl := (List.getElem?_eq_some_iff.1 hk).1
  rw [rows_len] at hil hkl
  rw [rows_at l i hil] at hi
  rw [rows_at l k hkl] at hk
  exact pick_inj l i k ha hil hkl (by rw [Option.some.inj hi, Option.some.inj hk, h])
end Go.Mx
namespace Go.Proofs.Ytllcbjaajffaeaa
open Go.Am Go.Mx
set_option linter.unusedVariables false
set_option linter.unusedSimpArgs false
set_option maxRecDepth 20000
set_option maxHeartbeats 4000000
attribute [local irreducible] OS LSr ODS CS YS OGS OT
theorem countsLaw_ct {L : RL} {v : Value} {n : W} {l : List Ax} {cs : List Value} (hv : SV 2 L v l.length cs) (hx : AxR L l cs) (hn : l.length ≤ 1048576) (hm : ∀ x, x ∈ l → x.1.length ≤ 1048576 ∧ x.2.length ≤ 1048576 ∧ ∀ w, w ∈ x.2 → w.length ≤ 1048576) (hnn : n.length ≤ 1048576) :
    CS Try.prog 7 [v, str n] L fun u _ => u = .bool true := by
  have aw : ∀ L : RL, CS Try.prog 14 [] L fun v L' => v = .bool true ∧ L' = L := fun L => awake_ct
  have hm2 : ∀ x, x ∈ l → x.2.length ≤ 140737488355328 := fun x hx => by have := (hm x hx).2.1; omega
  refine CS.mk (fn := Try.f7) rfl rfl rfl rfl ?_
  refine yG ?_
  refine OS.call noGo rfl (fun _ => rfl) ((large_ct hv hx (by omega) (fun x hx => by have := hm x hx; exact ⟨by omega, by omega, fun w hw => by have := this.2.2 w hw; omega⟩)).mono ?_)
  rintro v' L2 ⟨b, rfl, hb, hL⟩
  rw [hL]
  clear hL
  rcases tf b with h1 | h1
  · rw [h1]
    refine yG ?_
    refine OS.call noGo rfl (fun _ => rfl) ((aw _).mono ?_)
    rintro v' L2 ⟨rfl, hL⟩
    refine yG ?_
    rfl
  have hl3 := hb h1
  rw [h1]
  by_cases h2 : 300 < n.length
  · have q2 : (!ileB ((n.length : Nat) : Int) 300) = true := by rw [ileB_eq]; simp; omega
    refine yG ?_
    refine OS.call noGo rfl (fun _ => rfl) ((aw _).mono ?_)
    rintro v' L2 ⟨rfl, hL⟩
    refine yG ?_
    rfl
  have q2 : (!ileB ((n.length : Nat) : Int) 300) = false := by rw [ileB_eq]; simp; omega
  have hRl := RA_len l
  have hRe := RA_each l
  refine yG ?_
  refine OS.call noGo rfl (fun _ => rfl) ((aw _).mono ?_)
  rintro v' L2 ⟨rfl, hL⟩
  rw [hL]
  clear hL
  refine yG ?_
  refine OS.call noGo rfl (fun _ => rfl) ((given_ct hv hx (by omega) (fun x hx => by have := (hm x hx).2.1; omega)).mono ?_)
  rintro iv L2 ⟨cs', HY0, Y, rfl, hg0, hA0⟩
  obtain ⟨iA, ic, rfl⟩ := hg0.sv.form
  have hin : SV 2 (HY0 ++ (Y ++ L)) (.slice iA l.length ic) l.length cs' := hg0.sv.mono fun p hp => List.mem_append_left _ hp
  have hinx : AxR (HY0 ++ (Y ++ L)) l cs' := hA0.mono fun p hp => List.mem_append_right _ (List.mem_append_left _ hp)
  have hvM := hv.mono (L' := HY0 ++ (Y ++ L)) fun p hp => List.mem_append_right _ (List.mem_append_right _ hp)
  have hxM := hx.mono (M' := HY0 ++ (Y ++ L)) fun p hp => List.mem_append_right _ (List.mem_append_right _ hp)
  generalize HY0 ++ (Y ++ L) = M at hin hinx hvM hxM
  clear hg0 hA0 hv hx
  refine yG ?_
  refine OS.call noGo rfl (fun _ => rfl) ((Rows_ct hin hinx (by omega) hm2).mono ?_)
  intro v' L2 h
  obtain ⟨A1, c1, t, HY1, rfl, ht, hg1, rfl⟩ := h.all
  clear h hin hinx
  by_cases hz : chk l = 0
  rotate_left
  · have hb : (!ieqB ((chk l : Nat) : Int) 0) = true := by rw [ieqB_eq]; simp; omega
    have e : RA l = [] := by unfold RA; rw [if_neg hz]
    have e2 : ieqB (((RA l).length : Nat) : Int) 0 = true := by rw [e]; rfl
    refine yG ?_
    rfl
  have hb : (!ieqB ((chk l : Nat) : Int) 0) = false := by rw [hz]; rfl
  obtain ⟨hp, h24⟩ := chk_zero hz
  have eR : RA l = rowsL (vlsA l) := by unfold RA; rw [if_pos hz]
  have eN : (RA l).length = cnt (nsA l) := by rw [eR, rows_len]; simp [lens, vlsA, nsA, Function.comp_def]
  have hgv : SV 1 (HY1 ++ (rrs t ++ M)) (.slice A1 (RA l).length c1) (RA l).length (rvs t) := hg1.sv.mono fun p hp => List.mem_append_left _ hp
  have each : ∀ (i : Nat) (w : List W), (RA l)[i]? = some w → ∃ r, (rvs t)[i]? = some (.slice (some ⟨r, 0, none⟩) w.length openCap) ∧ SV 1 (HY1 ++ (rrs t ++ M)) (.slice (some ⟨r, 0, none⟩) w.length openCap) w.length (strs w) := fun i w hw => by
    obtain ⟨r, hr⟩ := map_at ht hw
    exact ⟨r, rvs_at hr, SV.row (List.mem_append_right _ (List.mem_append_left _ (rrs_mem hr))) (by rw [strs_len]; simp)⟩
  have upM : ∀ p, p ∈ M → p ∈ HY1 ++ (rrs t ++ M) := fun p hp => List.mem_append_right _ (List.mem_append_right _ hp)
  have hv2 := hvM.mono upM
  have hx2 := hxM.mono upM
  clear hg1 ht hvM hxM upM
  generalize HY1 ++ (rrs t ++ M) = N at hgv each hv2 hx2
  generalize rvs t = vs at hgv each
  generalize hRA : (RA l).length = nr at hgv hRl eN
  refine yG ?_
  refine LS.loopJ [0, 1, 5, 7, 8, 9] (fun q a L' => ∃ (i p : Nat) (b : Bool), q = l.length - i ∧ i ≤ l.length ∧ p = cnt (nsA (l.take i)) ∧ (b = true → ∀ x, x ∈ l.take i → apart1 x.2) ∧ L' = N ∧ a = [v, str n, .chan none, .chan none, .chan none, .slice A1 nr c1, .chan none, .int .i64 (p : Nat), .bool b, .int .i64 (i : Nat), .chan none, .chan none, .chan none, .chan none, .chan none, .chan none, .chan none, .chan none, .chan none, .chan none, .chan none, .chan none, .chan none, .chan none, .chan none, .chan none, .chan none, .chan none, .chan none, .chan none, .chan none, .chan none, .chan none, .chan none, .chan none, .chan none, .chan none, .chan none, .chan none, .chan none, .chan none, .chan none, .chan none, .chan none, .chan none, .chan none, .chan none, .chan none, .chan none, .chan none, .chan none, .chan none, .chan none, .chan none, .chan none, .chan none, .chan none, .chan none, .chan none, .chan none, .chan none, .chan none, .chan none, .chan none, .chan none, .chan none, .chan none, .chan none, .chan none, .chan none, .chan none, .chan none, .chan none, .chan none, .chan none, .chan none, .chan none, .chan none, .chan none, .chan none, .chan none, .chan none, .chan none, .chan none, .chan none, .chan none, .chan none, .chan none, .chan none, .chan none, .chan none, .chan none, .chan none, .chan none, .chan none, .chan none, .chan none, .chan none, .chan none, .chan none, .chan none, .chan none, .chan none, .chan none, .chan none, .chan none, .chan none, .chan none, .chan none, .chan none, .chan none, .chan none, .chan none, .chan none, .chan none, .chan none, .chan none, .chan none, .chan none, .chan none, .chan none, .chan none, .chan none, .chan none, .chan none]) (n := l.length) rfl ⟨0, 1, true, rfl, by omega, by simp [nsA, cnt], fun _ x h => by simp at h, rfl, rfl⟩ ?_
  rintro q a L' ⟨i, p, b, rfl, hi, hpe, hba, hL, rfl⟩
  rw [hL]
  clear hL
  refine yG ?_
  repeat refine LS.seq ?_
  refine LS.cond rfl (fun hc => ?_) (fun hc => ?_)
  · have hc := lt_of hc
    obtain ⟨x, hxi⟩ := ext_list (l := l) (k := i) (by omega)
    obtain ⟨g0, ax, g1, g2, g3⟩ := hx2.get hxi
    have hst := cnt_step hxi
    have hle := cnt_le hp (i + 1)
    rw [hst, ← hpe] at hle
    have hx24 : x.2.length ≤ 24 := Nat.le_trans (le_cnt hp (List.mem_of_getElem? hxi)) h24
    refine LS.skip ?_
    refine yG ?_
    refine OS.at (j := i) hv2 (by omega) rfl rfl rfl rfl rfl rfl (fun r0 o0 row0 cs0 m0 c0 h0 k0 => ?_)
    refine ⟨_, rfl, ?_⟩
    refine yG ?_
    refine OS.read rfl (e_loadm m0 c0 rfl rfl (part_one rfl (h0 1 _ (by omega) g1))) rfl ?_
    refine OS.pure rfl (e_len g2 rfl rfl rfl rfl rfl) rfl ?_
    refine OS.pure rfl (e_mulN (m := p) (n := x.2.length) rfl rfl rfl (in_i64 (by omega) (by omega))) rfl ?_
    refine yG ?_
    clear m0 c0 h0 k0
    refine LS.loopJ [0, 1, 5, 7, 8, 9, 10] (fun q a L' => ∃ (k : Nat) (b : Bool), q = x.2.length - k ∧ k ≤ x.2.length ∧ (b = true → (∀ x, x ∈ l.take i → apart1 x.2) ∧ ∀ j k', j < k' → k' < k → x.2[j]? ≠ x.2[k']?) ∧ L' = N ∧ a = [v, str n, .chan none, .chan none, .chan none, .slice A1 nr c1, .chan none, .int .i64 (p * x.2.length : Nat), .bool b, .int .i64 (i : Nat), .int .i64 (k : Nat), .chan none, .chan none, .chan none, .chan none, .chan none, .chan none, .chan none, .chan none, .chan none, .chan none, .chan none, .chan none, .chan none, .chan none, .chan none, .chan none, .chan none, .chan none, .chan none, .chan none, .chan none, .chan none, .chan none, .chan none, .chan none, .chan none, .chan none, .chan none, .chan none, .chan none, .chan none, .chan none, .chan none, .chan none, .chan none, .chan none, .chan none, .chan none, .chan none, .chan none, .chan none, .chan none, .chan none, .chan none, .chan none, .chan none, .chan none, .chan none, .chan none, .chan none, .chan none, .chan none, .chan none, .chan none, .chan none, .chan none, .chan none, .chan none, .chan none, .chan none, .chan none, .chan none, .chan none, .chan none, .chan none, .chan none, .chan none, .chan none, .chan none, .chan none, .chan none, .chan none, .chan none, .chan none, .chan none, .chan none, .chan none, .chan none, .chan none, .chan none, .chan none, .chan none, .chan none, .chan none, .chan none, .chan none, .chan none, .chan none, .chan none, .chan none, .chan none, .chan none, .chan none, .chan none, .chan none, .chan none, .chan none, .chan none, .chan none, .chan none, .chan none, .chan none, .chan none, .chan none, .chan none, .chan none, .chan none, .chan none, .chan none, .chan none, .chan none, .chan none, .chan none, .chan none]) (n := x.2.length) rfl ⟨0, b, rfl, by omega, fun h => ⟨hba h, fun j k' h1 h2 => by omega⟩, rfl, rfl⟩ ?_
    clear hba
    rintro q a L' ⟨k, b, rfl, hk, hbk, hL, rfl⟩
    rw [hL]
    clear hL
    refine yG ?_
    refine OS.at (j := i) hv2 (by omega) rfl rfl rfl rfl rfl rfl (fun r0 o0 row0 cs0 m0 c0 h0 k0 => ?_)
    refine ⟨_, rfl, ?_⟩
    refine yG ?_
    refine OS.read rfl (e_loadm m0 c0 rfl rfl (part_one rfl (h0 1 _ (by omega) g1))) rfl ?_
    refine OS.pure rfl (e_len g2 rfl rfl rfl rfl rfl) rfl ?_
    refine yG ?_
    clear m0 c0 h0 k0
    repeat refine LS.seq ?_
    refine LS.cond rfl (fun hc2 => ?_) (fun hc2 => ?_)
    · have hc2 := lt_of hc2
      obtain ⟨w, hwk⟩ := ext_list (l := x.2) (k := k) (by omega)
      refine LS.skip ?_
      refine yG ?_
      refine LS.loopJ [0, 1, 5, 7, 8, 9, 10, 11] (fun q a L' => ∃ (j : Nat) (b : Bool), q = k - j ∧ j ≤ k ∧ (b = true → ((∀ x, x ∈ l.take i → apart1 x.2) ∧ ∀ j k', j < k' → k' < k → x.2[j]? ≠ x.2[k']?) ∧ ∀ j', j' < j → x.2[j']? ≠ x.2[k]?) ∧ L' = N ∧ a = [v, str n, .chan none, .chan none, .chan none, .slice A1 nr c1, .chan none, .int .i64 (p * x.2.length : Nat), .bool b, .int .i64 (i : Nat), .int .i64 (k : Nat), .int .i64 (j : Nat), .chan none, .chan none, .chan none, .chan none, .chan none, .chan none, .chan none, .chan none, .chan none, .chan none, .chan none, .chan none, .chan none, .chan none, .chan none, .chan none, .chan none, .chan none, .chan none, .chan none, .chan none, .chan none, .chan none, .chan none, .chan none, .chan none, .chan none, .chan none, .chan none, .chan none, .chan none, .chan none, .chan none, .chan none, .chan none, .chan none, .chan none, .chan none, .chan none, .chan none, .chan none, .chan none, .chan none, .chan none, .chan none, .chan none, .chan none, .chan none, .chan none, .chan none, .chan none, .chan none, .chan none, .chan none, .chan none, .chan none, .chan none, .chan none, .chan none, .chan none, .chan none, .chan none, .chan none, .chan none, .chan none, .chan none, .chan none, .chan none, .chan none, .chan none, .chan none, .chan none, .chan none, .chan none, .chan none, .chan none, .chan none, .chan none, .chan none, .chan none, .chan none, .chan none, .chan none, .chan none, .chan none, .chan none, .chan none, .chan none, .chan none, .chan none, .chan none, .chan none, .chan none, .chan none, .chan none, .chan none, .chan none, .chan none, .chan none, .chan none, .chan none, .chan none, .chan none, .chan none, .chan none, .chan none, .chan none, .chan none, .chan none, .chan none, .chan none, .chan none, .chan none]) (n := k) rfl ⟨0, b, rfl, by omega, fun h => ⟨hbk h, fun j' h1 => by omega⟩, rfl, rfl⟩ ?_
      clear hbk
      rintro q a L' ⟨j, b, rfl, hj, hbj, hL, rfl⟩
      rw [hL]
      clear hL
      refine yG ?_
      repeat refine LS.seq ?_
      refine LS.cond rfl (fun hc3 => ?_) (fun hc3 => ?_)
      · have hc3 := lt_of hc3
        obtain ⟨y, hyj⟩ := ext_list (l := x.2) (k := j) (by omega)
        refine LS.skip ?_
        rcases tf b with h5 | h5
        · rw [h5]
          have hbj := hbj h5
          refine yG ?_
          repeat refine LS.seq ?_
          refine LS.drawn noGo mixed [(0, false), (1, false), (2, false), (3, false), (4, false), (5, false), (6, false), (7, false), (8, false), (9, false), (10, false), (11, false), (12, false), (13, false), (14, false), (15, false), (16, false), (17, false), (18, false), (19, false), (20, false)] rfl rfl (by kernel_rfl) ?_
          refine yG ?_
          refine ODS.at (j := i) hv2 (by omega) rfl rfl rfl rfl rfl rfl rfl (fun r0 o0 row0 cs0 m0 c0 h0 k0 => ?_)
          refine ⟨_, rfl, ?_⟩
          refine yG ?_
          refine ODS.read rfl rfl (e_loadm m0 c0 rfl rfl (part_one rfl (h0 1 _ (by omega) g1))) rfl ?_
          refine yG ?_
          refine ODS.at1 (j := j) (g2) (strs_at hyj) rfl rfl rfl rfl rfl rfl rfl (fun ra2 oa2 rowa2 csa2 ma2 ca2 ga2 => ⟨_, rfl, ?_⟩)
          refine ODS.read rfl rfl (e_loadm ma2 ca2 rfl rfl (part_one rfl ga2)) rfl ?_
          refine yG ?_
          refine ODS.at (j := i) hv2 (by omega) rfl rfl rfl rfl rfl rfl rfl (fun r1 o1 row1 cs1 m1 c1 h1 k1 => ?_)
          refine ⟨_, rfl, ?_⟩
          refine yG ?_
          refine ODS.read rfl rfl (e_loadm m1 c1 rfl rfl (part_one rfl (h1 1 _ (by omega) g1))) rfl ?_
          refine yG ?_
          refine ODS.at1 (j := k) (g2) (strs_at hwk) rfl rfl rfl rfl rfl rfl rfl (fun ra3 oa3 rowa3 csa3 ma3 ca3 ga3 => ⟨_, rfl, ?_⟩)
          refine ODS.read rfl rfl (e_loadm ma3 ca3 rfl rfl (part_one rfl ga3)) rfl ?_
          refine yG ?_
          refine ⟨k - (j + 1), by omega, j + 1, _, rfl, by omega, fun hbb => ⟨hbj.1, fun j' h1 => ?_⟩, rfl, rfl⟩
          by_cases hjj : j' < j
          · exact hbj.2 j' hjj
          · obtain rfl : j' = j := by omega
            rw [hyj, hwk]
            intro he
            have he := Option.some.inj he
            rw [he, same_bytes] at hbb
            cases hbb
        · rw [h5]
          refine yG ?_
          repeat refine LS.seq ?_
          refine LS.drawn noGo mixed [(0, false), (1, false), (2, false), (3, false), (4, false), (5, false), (6, false), (7, false), (8, false), (9, false), (10, false), (11, false), (12, false), (13, false), (14, false), (15, false), (16, false), (17, false), (18, false), (19, false), (20, false)] rfl rfl (by kernel_rfl) ?_
          refine yG ?_
          exact ⟨k - (j + 1), by omega, j + 1, false, rfl, by omega, fun hbb => (by cases hbb), rfl, rfl⟩
      · have hc3 := nlt_of hc3
        obtain rfl : j = k := by omega
        refine LS.exit ?_
        refine yG ?_
        refine ⟨x.2.length - (j + 1), by omega, j + 1, b, rfl, by omega, fun hbb => ⟨(hbj hbb).1.1, fun j' k' h1 h2 => ?_⟩, rfl, rfl⟩
        by_cases hkk : k' < j
        · exact (hbj hbb).1.2 j' k' h1 hkk
        · obtain rfl : k' = j := by omega
          exact (hbj hbb).2 j' h1
    · have hc2 := nlt_of hc2
      obtain rfl : k = x.2.length := by omega
      refine LS.exit ?_
      refine yG ?_
      refine ⟨l.length - (i + 1), by omega, i + 1, _, b, rfl, by omega, by rw [hst, hpe], fun hbb y hy => ?_, rfl, rfl⟩
      rw [List.take_add_one, hxi] at hy
      rcases List.mem_append.1 hy with hy | hy
      · exact (hbk hbb).1 y hy
      · simp at hy
        subst hy
        exact fun j' k' h1 h2 => (hbk hbb).2 j' k' h1 h2
  · have hc := nlt_of hc
    obtain rfl : i = l.length := by omega
    rw [List.take_length] at hpe hba
    rw [← eN] at hpe
    subst hpe
    have q3 : (!ieqB ((p : Nat) : Int) ((p : Nat) : Int)) = false := by rw [ieqB_eq]; simp
    refine LS.exit ?_
    refine yG ?_
    refine LS.loopJ [0, 1, 5, 8, 12] (fun q a L' => ∃ (i : Nat), q = p - i ∧ i ≤ p ∧ L' = N ∧ a = [v, str n, .chan none, .chan none, .chan none, .slice A1 p c1, .chan none, .chan none, .bool b, .chan none, .chan none, .chan none, .int .i64 (i : Nat), .chan none, .chan none, .chan none, .chan none, .chan none, .chan none, .chan none, .chan none, .chan none, .chan none, .chan none, .chan none, .chan none, .chan none, .chan none, .chan none, .chan none, .chan none, .chan none, .chan none, .chan none, .chan none, .chan none, .chan none, .chan none, .chan none, .chan none, .chan none, .chan none, .chan none, .chan none, .chan none, .chan none, .chan none, .chan none, .chan none, .chan none, .chan none, .chan none, .chan none, .chan none, .chan none, .chan none, .chan none, .chan none, .chan none, .chan none, .chan none, .chan none, .chan none, .chan none, .chan none, .chan none, .chan none, .chan none, .chan none, .chan none, .chan none, .chan none, .chan none, .chan none, .chan none, .chan none, .chan none, .chan none, .chan none, .chan none, .chan none, .chan none, .chan none, .chan none, .chan none, .chan none, .chan none, .chan none, .chan none, .chan none, .chan none, .chan none, .chan none, .chan none, .chan none, .chan none, .chan none, .chan none, .chan none, .chan none, .chan none, .chan none, .chan none, .chan none, .chan none, .chan none, .chan none, .chan none, .chan none, .chan none, .chan none, .chan none, .chan none, .chan none, .chan none, .chan none, .chan none, .chan none, .chan none, .chan none, .chan none, .chan none, .chan none, .chan none, .chan none]) (n := p) rfl ⟨0, rfl, by omega, rfl, rfl⟩ ?_
    rintro q a L' ⟨i, rfl, hi, hL, rfl⟩
    rw [hL]
    clear hL
    refine yG ?_
    repeat refine LS.seq ?_
    refine LS.cond rfl (fun hc => ?_) (fun hc => ?_)
    · have hc := lt_of hc
      obtain ⟨w, hw⟩ := ext_list (l := RA l) (k := i) (by omega)
      have hwl := hRe w (List.mem_of_getElem? hw)
      obtain ⟨r, hr1, hr2⟩ := each i w hw
      have bnd : ∀ (j : Nat) (w : List W), (RA l)[j]? = some w → 2 * n.length + vlen w ≤ 40000000000000 := fun j w hw => by
        have hmem := List.mem_of_getElem? hw
        have hl := hRe w hmem
        have h1 := vlen_le (row := w) (m := 1048576) fun u hu => by
          rw [eR] at hmem
          obtain ⟨us, hus, huu⟩ := rows_in _ w hmem u hu
          obtain ⟨x, hx, rfl⟩ := List.mem_map.1 hus
          exact (hm x hx).2.2 u huu
        have h2 : w.length * (1 + 2 * 1048576) ≤ 3000 * (1 + 2 * 1048576) := Nat.mul_le_mul_right _ (by omega)
        omega
      have q4 : (!ieqB ((w.length : Nat) : Int) ((l.length : Nat) : Int)) = false := by rw [hwl, ieqB_eq]; simp
      refine LS.skip ?_
      refine yG ?_
      refine OS.at1 (j := i) (hgv) (hr1) rfl rfl rfl rfl rfl rfl (fun ra0 oa0 rowa0 csa0 ma0 ca0 ga0 => ⟨_, rfl, ?_⟩)
      refine OS.read rfl (e_loadm ma0 ca0 rfl rfl (part_one rfl ga0)) rfl ?_
      refine yG ?_
      refine LS.loopJ [0, 1, 5, 8, 12, 13] (fun q a L' => ∃ (k : Nat), q = i - k ∧ k ≤ i ∧ L' = N ∧ a = [v, str n, .chan none, .chan none, .chan none, .slice A1 p c1, .chan none, .chan none, .bool b, .chan none, .chan none, .chan none, .int .i64 (i : Nat), .int .i64 (k : Nat), .chan none, .chan none, .chan none, .chan none, .chan none, .chan none, .chan none, .chan none, .chan none, .chan none, .chan none, .chan none, .chan none, .chan none, .chan none, .chan none, .chan none, .chan none, .chan none, .chan none, .chan none, .chan none, .chan none, .chan none, .chan none, .chan none, .chan none, .chan none, .chan none, .chan none, .chan none, .chan none, .chan none, .chan none, .chan none, .chan none, .chan none, .chan none, .chan none, .chan none, .chan none, .chan none, .chan none, .chan none, .chan none, .chan none, .chan none, .chan none, .chan none, .chan none, .chan none, .chan none, .chan none, .chan none, .chan none, .chan none, .chan none, .chan none, .chan none, .chan none, .chan none, .chan none, .chan none, .chan none, .chan none, .chan none, .chan none, .chan none, .chan none, .chan none, .chan none, .chan none, .chan none, .chan none, .chan none, .chan none, .chan none, .chan none, .chan none, .chan none, .chan none, .chan none, .chan none, .chan none, .chan none, .chan none, .chan none, .chan none, .chan none, .chan none, .chan none, .chan none, .chan none, .chan none, .chan none, .chan none, .chan none, .chan none, .chan none, .chan none, .chan none, .chan none, .chan none, .chan none, .chan none, .chan none, .chan none, .chan none, .chan none, .chan none, .chan none]) (n := i) rfl ⟨0, rfl, by omega, rfl, rfl⟩ ?_
      rintro q a L' ⟨k, rfl, hk, hL, rfl⟩
      rw [hL]
      clear hL
      by_cases hki : k < i
      · have b1 : (!ileB ((i : Nat) : Int) (k : Nat)) = true := by rw [ileB_eq]; simp; omega
        rcases tf b with h5 | h5
        · rw [h5]
          obtain ⟨w2, hw2⟩ := ext_list (l := RA l) (k := k) (by omega)
          have hwl2 := hRe w2 (List.mem_of_getElem? hw2)
          obtain ⟨r2, hr3, hr4⟩ := each k w2 hw2
          have hne : bytesEq (label n w) (label n w2) = false := by
            rw [beq_bytes]
            simp only [decide_eq_false_iff_not]
            intro he
            have he := label_inj he
            rw [eR] at hw hw2
            have := rows_apart (fun us hus => by obtain ⟨x, hx, rfl⟩ := List.mem_map.1 hus; exact hba h5 x hx) hw hw2 he
            omega
          refine yG ?_
          repeat refine LS.seq ?_
          refine LS.drawn noGo mixed [(0, false), (1, false), (2, false), (3, false), (4, false), (6, false), (7, false), (8, false), (9, false), (10, false), (5, true), (11, true), (12, false)] rfl rfl (by kernel_rfl) ?_
          refine yG ?_
          refine ODS.at1 (j := i) (hgv) (hr1) rfl rfl rfl rfl rfl rfl rfl (fun ra0 oa0 rowa0 csa0 ma0 ca0 ga0 => ⟨_, rfl, ?_⟩)
          refine ODS.read rfl rfl (e_loadm ma0 ca0 rfl rfl (part_one rfl ga0)) rfl ?_
          refine yG ?_
          refine ODS.at1 (j := k) (hgv) (hr3) rfl rfl rfl rfl rfl rfl rfl (fun ra2 oa2 rowa2 csa2 ma2 ca2 ga2 => ⟨_, rfl, ?_⟩)
          refine ODS.read rfl rfl (e_loadm ma2 ca2 rfl rfl (part_one rfl ga2)) rfl ?_
          refine ODS.call rfl rfl (fun _ => rfl) ((Label_ct hr2 (by omega) (bnd i w hw)).mono ?_)
          rintro v' L2 ⟨rfl, hL⟩
          rw [hL]
          clear hL
          refine ⟨_, rfl, Keep.cons rfl (e_loadm ma2 ca2 rfl rfl (part_one rfl ga2)) (Keep.gone rfl Keep.nil), ?_⟩
          refine ODS.call rfl rfl (fun _ => rfl) ((Label_ct hr4 (by omega) (bnd k w2 hw2)).mono ?_)
          rintro v' L2 ⟨rfl, hL⟩
          rw [hL]
          clear hL
          refine ⟨_, rfl, Keep.gone rfl (Keep.gone rfl Keep.nil), ?_⟩
          refine yG ?_
          exact ⟨i - (k + 1), by omega, k + 1, rfl, by omega, rfl, rfl⟩
        · rw [h5]
          refine yG ?_
          refine LS.exit ?_
          refine yG ?_
          exact ⟨p - (i + 1), by omega, i + 1, rfl, by omega, rfl, rfl⟩
      · have b1 : (!ileB ((i : Nat) : Int) (k : Nat)) = false := by rw [ileB_eq]; simp; omega
        refine yG ?_
        refine LS.exit ?_
        refine yG ?_
        exact ⟨p - (i + 1), by omega, i + 1, rfl, by omega, rfl, rfl⟩
    · refine LS.exit ?_
      refine yG ?_
      rfl
end Go.Proofs.Ytllcbjaajffaeaa
