/- Layer 10: GlobPicks. -/
import Derived.Test.YtmaneoaliipccaaGi
namespace Go.Am
theorem GV.row {e : TypeId} {sz n : Nat} {F L : RL} {v : Value} {cs : List Value} (g : GV e sz F v n cs L) (h : 0 < n) : ∃ r, v = .slice (some ⟨r, 0, none⟩) n openCap ∧ L = (r, .cells e cs) :: F := by
  rcases g with ⟨_, rfl, _⟩ | ⟨r, rfl, _, rfl⟩
  · omega
  · exact ⟨r, rfl, rfl⟩
theorem gv_drop {e : TypeId} {sz n : Nat} {F L : RL} {v : Value} {cs : List Value} (g : GV e sz F v n cs L) : Sub F L := by
  rcases g with ⟨_, _, _, rfl⟩ | ⟨r, _, _, rfl⟩
  · exact ⟨[], by simp⟩
  · exact ⟨[_], List.perm_append_comm (l₁ := [_])⟩
end Go.Am
namespace Go.Proofs.Ytmaneoaliipccaa
open Go.Am
set_option linter.unusedVariables false
set_option maxRecDepth 20000
set_option maxHeartbeats 4000000
attribute [local irreducible] OS LSr ODS CS

/-- Are lists more than a statement goes over? -/
theorem long_ct {L : RL} {v : Value} {n : Nat} {ws : List (List UInt8)} (hv : SV 1 L v n (strs ws)) (hn : n ≤ 9000000000000000) (hw : ∀ w ∈ ws, w.length ≤ 140737488355328) :
    CS Try.prog 13 [v] L fun u L' => ∃ b, u = .bool b ∧ (b = false → n ≤ 30 ∧ ∀ w ∈ ws, w.length ≤ 2000) ∧ L' = L := by
  have hlen : ws.length = n := by have := hv.len; rw [strs_len] at this; omega
  refine CS.mk (fn := Try.f13) rfl rfl rfl rfl ?_
  refine yG ?_
  refine LS.loopJ [0, 3, 4] (fun q a L' => ∃ (j m : Nat), q = n - j ∧ j ≤ n ∧ j ≤ 100 ∧ m ≤ n + j * 140737488355328 ∧ n ≤ m ∧ (∀ i, i < j → ∀ w, ws[i]? = some w → w.length ≤ m) ∧ L' = L ∧ a = [v, .chan none, .chan none, .int .i64 (m : Nat), .int .i64 (j : Nat), .chan none, .chan none, .chan none, .chan none, .chan none, .chan none, .chan none, .chan none, .chan none, .chan none, .chan none, .chan none, .chan none, .chan none, .chan none, .chan none, .chan none, .chan none, .chan none, .chan none, .chan none, .chan none, .chan none, .chan none, .chan none, .chan none]) (n := n) rfl ⟨0, n, rfl, by omega, by omega, by omega, by omega, fun i h => by omega, rfl, rfl⟩ ?_
  rintro q a L' ⟨j, m, rfl, hj, hj1, hm, hm2, hall, hL, rfl⟩
  rw [hL]
  clear hL
  have fin : ((!ileB ((n : Nat) : Int) 30) = false) → ((!ileB ((m : Nat) : Int) 2000) = false) → j = n ∨ j = 100 → n ≤ 30 ∧ ∀ w ∈ ws, w.length ≤ 2000 := by
    intro h1 h2 h3
    have h1 := nlt_of h1
    have h2 := nlt_of h2
    refine ⟨by omega, fun w hwm => ?_⟩
    obtain ⟨i, hi⟩ := List.getElem?_of_mem hwm
    have hil := (List.getElem?_eq_some_iff.1 hi).1
    have := hall i (by omega) w hi
    omega
  by_cases hc : j < n
  · have b1 : (!ileB ((n : Nat) : Int) (j : Nat)) = true := by rw [ileB_eq]; simp; omega
    by_cases hk : j < 100
    · have b2 : (!ileB 100 ((j : Nat) : Int)) = true := by rw [ileB_eq]; simp; omega
      obtain ⟨w, hg⟩ := ext_list (l := ws) (k := j) (by omega)
      have hwl := hw w (List.mem_of_getElem? hg)
      refine yG ?_
      refine OS.at1 (j := j) (hv) (strs_at hg) rfl rfl rfl rfl rfl rfl (fun ra0 oa0 rowa0 csa0 ma0 ca0 ga0 => ⟨_, rfl, ?_⟩)
      refine OS.read rfl (e_loadm ma0 ca0 rfl rfl (part_one rfl ga0)) rfl ?_
      refine yG ?_
      refine ⟨n - (j + 1), by omega, j + 1, m + w.length, rfl, by omega, by omega, by omega, by omega, fun i hi w' hg' => ?_, rfl, rfl⟩
      by_cases hij : i = j
      · subst hij
        rw [hg] at hg'
        obtain rfl := Option.some.inj hg'
        omega
      · have := hall i (by omega) w' hg'
        omega
    · have b2 : (!ileB 100 ((j : Nat) : Int)) = false := by rw [ileB_eq]; simp; omega
      refine yG ?_
      refine LS.exit ?_
      rcases tf (!ileB ((n : Nat) : Int) 30) with k1 | k1
      · refine yG ?_
        exact ⟨fun h => (by cases h), rfl⟩
      · rcases tf (!ileB ((m : Nat) : Int) 2000) with k2 | k2
        · refine yG ?_
          exact ⟨fun h => (by cases h), rfl⟩
        · refine yG ?_
          exact ⟨fun h => fin k1 k2 (by omega), rfl⟩
  · have b1 : (!ileB ((n : Nat) : Int) (j : Nat)) = false := by rw [ileB_eq]; simp; omega
    refine yG ?_
    refine LS.exit ?_
    rcases tf (!ileB ((n : Nat) : Int) 30) with k1 | k1
    · refine yG ?_
      exact ⟨fun h => (by cases h), rfl⟩
    · rcases tf (!ileB ((m : Nat) : Int) 2000) with k2 | k2
      · refine yG ?_
        exact ⟨fun h => (by cases h), rfl⟩
      · refine yG ?_
        exact ⟨fun h => fin k1 k2 (by omega), rfl⟩
theorem Same_ct {L : RL} {v w : Value} {n : Nat} {ws : List (List UInt8)} (hv : SV 1 L v n (strs ws)) (hw : SV 1 L w n (strs ws)) (hn : n ≤ 1000000) : CS Try.prog 18 [v, w] L fun u L' => u = .bool true ∧ L' = L := by
  have hlen : ws.length = n := by have := hv.len; rw [strs_len] at this; omega
  refine CS.mk (fn := Try.f18) rfl rfl rfl rfl ?_
  have b0 : (!ieqB ((n : Nat) : Int) (n : Nat)) = false := by rw [ieqB_eq]; simp
  refine yG ?_
  refine LS.loopJ [0, 1, 5] (fun q a L' => ∃ k : Nat, q = n - k ∧ k ≤ n ∧ L' = L ∧ a = [v, w, .chan none, .chan none, .chan none, .int .i64 (k : Nat), .chan none, .chan none, .chan none, .chan none, .chan none, .chan none, .chan none, .chan none, .chan none, .chan none, .chan none, .chan none, .chan none, .chan none, .chan none, .chan none, .chan none, .chan none, .chan none, .chan none]) (n := n) rfl ⟨0, rfl, by omega, rfl, rfl⟩ ?_
  rintro q a L' ⟨k, rfl, hk, hL, rfl⟩
  rw [hL]
  clear hL
  refine yG ?_
  repeat refine LS.seq ?_
  refine LS.cond rfl (fun hc => ?_) (fun hc => ?_)
  · have hc := lt_of hc
    obtain ⟨s, hg⟩ := ext_list (l := ws) (k := k) (by omega)
    have b1 : (!bytesEq s s) = false := by rw [beq_bytes]; simp
    refine LS.skip ?_
    refine yG ?_
    repeat refine LS.seq ?_
    refine LS.drawn noGo mixed [(0, false), (1, false), (2, false), (3, false), (4, false), (5, false), (6, false), (7, false), (8, false)] rfl rfl (by kernel_rfl) ?_
    refine yG ?_
    refine ODS.at1 (j := k) (hv) (strs_at hg) rfl rfl rfl rfl rfl rfl rfl (fun ra0 oa0 rowa0 csa0 ma0 ca0 ga0 => ⟨_, rfl, ?_⟩)
    refine ODS.read rfl rfl (e_loadm ma0 ca0 rfl rfl (part_one rfl ga0)) rfl ?_
    refine yG ?_
    refine ODS.at1 (j := k) (hw) (strs_at hg) rfl rfl rfl rfl rfl rfl rfl (fun ra2 oa2 rowa2 csa2 ma2 ca2 ga2 => ⟨_, rfl, ?_⟩)
    refine ODS.read rfl rfl (e_loadm ma2 ca2 rfl rfl (part_one rfl ga2)) rfl ?_
    refine yG ?_
    exact ⟨n - (k + 1), by omega, k + 1, rfl, by omega, rfl, rfl⟩
  · refine LS.exit ?_
    refine yG ?_
    exact ⟨rfl, rfl⟩
theorem picksLaw_ct {L : RL} {v w : Value} {n m : Nat} {P l : List (List UInt8)} (hv : SV 1 L v n (strs P)) (hw : SV 1 L w m (strs l)) (hn : n ≤ 140737488355328) (hm : m ≤ 140737488355328) (hP : ∀ x ∈ P, x.length ≤ 140737488355328) (hl : ∀ x ∈ l, x.length ≤ 140737488355328) :
    CS Try.prog 4 [v, w] L fun u _ => u = .bool true := by
  have aw : ∀ L : RL, CS Try.prog 8 [] L fun v L' => v = .bool true ∧ L' = L := fun L => awake_ct
  have hlen : l.length = m := by have := hw.len; rw [strs_len] at this; omega
  refine CS.mk (fn := Try.f4) rfl rfl rfl rfl ?_
  refine yG ?_
  refine OS.call noGo rfl (fun _ => rfl) ((long_ct hv (by omega) hP).mono ?_)
  rintro v' L2 ⟨b, rfl, hb, hL⟩
  rw [hL]
  clear hL
  rcases tf b with h1 | h1
  · rw [h1]
    refine yG ?_
    refine OS.call noGo rfl (fun _ => rfl) ((aw _).mono ?_)
    rintro v' L2 ⟨rfl, hL⟩
    refine yG ?_
    rfl
  obtain ⟨hn3, hP3⟩ := hb h1
  rw [h1]
  refine yG ?_
  refine OS.call noGo rfl (fun _ => rfl) ((long_ct hw (by omega) hl).mono ?_)
  rintro v' L2 ⟨b2, rfl, hb2, hL⟩
  rw [hL]
  clear hL
  rcases tf b2 with h2 | h2
  · rw [h2]
    refine yG ?_
    refine OS.call noGo rfl (fun _ => rfl) ((aw _).mono ?_)
    rintro v' L2 ⟨rfl, hL⟩
    refine yG ?_
    rfl
  obtain ⟨hm3, hl3⟩ := hb2 h2
  rw [h2]
  have hl4 : ∀ x ∈ l, x.length ≤ 1000000 := fun x hx => Nat.le_trans (hl3 x hx) (by decide)
  refine yG ?_
  refine OS.fresh rfl (e_new (fun _ => rfl) rfl) (fun _ => rfl) (fun r2 => ?_)
  refine OS.opened 17 0 (sz := 1) rfl rfl rfl (by simp) (by decide) rfl ?_
  refine yG ?_
  refine OS.fresh rfl (e_appendSV 0 (sz := 1) (bts := 16) (old := []) hw.cons (strs_one l) rfl rfl rfl (by omega) (by omega) rfl cut_zero rfl) (fun _ => rfl) (fun rI => ?_)
  rw [Nat.zero_add, List.nil_append]
  have hvI : SV 1 ((rI, .cells 9 (strs l)) :: L) v n (strs P) := hv.cons
  have hwI : SV 1 ((rI, .cells 9 (strs l)) :: L) w m (strs l) := hw.cons
  have hiI : SV 1 ((rI, .cells 9 (strs l)) :: L) (.slice (some ⟨rI, 0, none⟩) m openCap) m (strs l) := SV.row (List.mem_cons_self ..) (by rw [strs_len]; omega)
  generalize (rI, .cells 9 (strs l)) :: L = LI at hvI hwI hiI
  refine yG ?_
  refine LS.loopJ [0, 1, 5, 6] (fun q a L' => ∃ k : Nat, q = m - k ∧ k ≤ m ∧ L' = LI ∧ a = [v, w, .chan none, .chan none, .chan none, .slice (some ⟨rI, 0, none⟩) m openCap, .int .i64 (k : Nat), .chan none, .chan none, .chan none, .chan none, .chan none, .chan none, .chan none, .chan none, .chan none, .chan none, .chan none, .chan none, .chan none, .chan none, .chan none, .chan none, .chan none, .chan none, .chan none, .chan none, .chan none, .chan none, .chan none, .chan none, .chan none, .chan none, .chan none, .chan none, .chan none, .chan none, .chan none, .chan none, .chan none, .chan none, .chan none, .chan none, .chan none, .chan none, .chan none, .chan none, .chan none, .chan none, .chan none, .chan none, .chan none, .chan none, .chan none, .chan none, .chan none, .chan none, .chan none, .chan none, .chan none, .chan none, .chan none, .chan none, .chan none, .chan none, .chan none, .chan none, .chan none, .chan none, .chan none, .chan none]) (n := m) rfl ⟨0, rfl, by omega, rfl, rfl⟩ ?_
  rintro q a L' ⟨k, rfl, hk, hL, rfl⟩
  rw [hL]
  clear hL
  refine yG ?_
  repeat refine LS.seq ?_
  refine LS.cond rfl (fun hc => ?_) (fun hc => ?_)
  · have hc := lt_of hc
    obtain ⟨s, hg⟩ := ext_list (l := l) (k := k) (by omega)
    have hsl := hl4 s (List.mem_of_getElem? hg)
    refine LS.skip ?_
    refine yG ?_
    repeat refine LS.seq ?_
    refine LS.drawn noGo mixed [(0, false), (1, false), (2, false), (3, false), (4, false), (6, false), (7, false), (8, false), (9, false), (10, false), (5, true), (11, true), (12, false)] rfl rfl (by kernel_rfl) ?_
    refine yG ?_
    refine ODS.at1 (j := k) (hwI) (strs_at hg) rfl rfl rfl rfl rfl rfl rfl (fun ra0 oa0 rowa0 csa0 ma0 ca0 ga0 => ⟨_, rfl, ?_⟩)
    refine ODS.read rfl rfl (e_loadm ma0 ca0 rfl rfl (part_one rfl ga0)) rfl ?_
    refine yG ?_
    refine ODS.at1 (j := k) (hwI) (strs_at hg) rfl rfl rfl rfl rfl rfl rfl (fun ra2 oa2 rowa2 csa2 ma2 ca2 ga2 => ⟨_, rfl, ?_⟩)
    refine ODS.read rfl rfl (e_loadm ma2 ca2 rfl rfl (part_one rfl ga2)) rfl ?_
    refine ODS.call rfl rfl (fun _ => rfl) ((Any_ct hvI (by omega) hsl).mono ?_)
    rintro v' L2 ⟨rfl, hL⟩
    rw [hL]
    clear hL
    refine ⟨_, rfl, Keep.cons rfl (e_loadm ma2 ca2 rfl rfl (part_one rfl ga2)) (Keep.gone rfl Keep.nil), ?_⟩
    refine ODS.call rfl rfl (fun _ => rfl) ((refAny_ct hvI (by omega) hsl).mono ?_)
    rintro v' L2 ⟨rfl, hL⟩
    rw [hL]
    clear hL
    refine ⟨_, rfl, Keep.gone rfl (Keep.gone rfl Keep.nil), ?_⟩
    rcases tf (anyM P s) with h3 | h3 <;> rw [h3]
    all_goals
      refine yG ?_
      exact ⟨m - (k + 1), by omega, k + 1, rfl, by omega, rfl, rfl⟩
  clear hc
  refine LS.exit ?_
  refine yG ?_
  refine OS.call noGo rfl (fun _ => rfl) ((refPick_ct hvI (by omega) hwI (by omega) hl4).mono ?_)
  rintro wv LW hgW
  refine yG ?_
  have hiW := hiI.mono hgW.mem
  have hvW := hvI.mono hgW.mem
  have hwW := hwI.mono hgW.mem
  have hsW := hgW.sv
  have hpl : (pickM P l).length ≤ 1000000 := Nat.le_trans (List.length_filter_le _ _) (by omega)
  clear hgW hvI hwI hiI
  generalize hpk : pickM P l = pk at hsW hpl
  generalize hpn : pk.length = pn at hsW hpl
  refine OS.call noGo rfl (fun _ => rfl) ((Pick_ct hvW (by omega) hiW (by omega) hl4).mono ?_)
  rintro gv LG hgG
  rw [hpk, hpn] at hgG
  refine yG ?_
  refine OS.call noGo rfl (fun _ => rfl) ((Same_ct hgG.sv (hsW.mono hgG.mem) (by omega)).mono ?_)
  rintro v' L2 ⟨rfl, hL⟩
  rw [hL]
  clear hL
  refine yG ?_
  refine LS.loopJ [0, 1, 5, 7, 8, 9] (fun q a L' => ∃ (k : Nat) (cs : List Value), q = pn - k ∧ k ≤ pn ∧ GV 9 1 LW gv pn cs L' ∧ a = [v, w, .chan none, .chan none, .chan none, .slice (some ⟨rI, 0, none⟩) m openCap, .chan none, wv, gv, .int .i64 (k : Nat), .chan none, .chan none, .chan none, .chan none, .chan none, .chan none, .chan none, .chan none, .chan none, .chan none, .chan none, .chan none, .chan none, .chan none, .chan none, .chan none, .chan none, .chan none, .chan none, .chan none, .chan none, .chan none, .chan none, .chan none, .chan none, .chan none, .chan none, .chan none, .chan none, .chan none, .chan none, .chan none, .chan none, .chan none, .chan none, .chan none, .chan none, .chan none, .chan none, .chan none, .chan none, .chan none, .chan none, .chan none, .chan none, .chan none, .chan none, .chan none, .chan none, .chan none, .chan none, .chan none, .chan none, .chan none, .chan none, .chan none, .chan none, .chan none, .chan none, .chan none, .chan none]) (n := pn) rfl ⟨0, _, rfl, by omega, hgG, rfl⟩ ?_
  clear hgG
  rintro q a L' ⟨k, cs, rfl, hk, hg, rfl⟩
  have hgl := hg.sv
  refine yG ?_
  repeat refine LS.seq ?_
  refine LS.cond rfl (fun hc => ?_) (fun hc => ?_)
  · have hc := lt_of hc
    have hcl := hgl.len
    obtain ⟨rg, hgv, hL⟩ := hg.row (by omega)
    rw [hL, hgv]
    refine LS.skip ?_
    refine yG ?_
    refine OS.pure rfl (e_index (j := k) (sz := 1) rfl rfl rfl rfl rfl (by omega)) rfl ?_
    refine OS.write rfl (e_store 0 (n := 1) rfl rfl rfl rfl rfl rfl (lay_one (by omega)) rfl) rfl ?_
    refine yG ?_
    exact ⟨pn - (k + 1), by omega, k + 1, _, rfl, by omega, GV.of (by rw [List.length_set]; exact hcl), rfl⟩
  clear hc
  refine LS.exit ?_
  refine LS.sub (gv_drop hg) ?_
  clear hgl hg
  refine yG ?_
  refine OS.call noGo rfl (fun _ => rfl) ((Same_ct hiW hwW (by omega)).mono ?_)
  rintro v' L2 ⟨rfl, hL⟩
  rw [hL]
  clear hL
  refine yG ?_
  refine OS.call noGo rfl (fun _ => rfl) ((Pick_ct hvW (by omega) hiW (by omega) hl4).mono ?_)
  rintro gv2 LG hgG
  rw [hpk, hpn] at hgG
  refine yG ?_
  refine OS.call noGo rfl (fun _ => rfl) ((Same_ct hgG.sv (hsW.mono hgG.mem) (by omega)).mono ?_)
  rintro v' L2 ⟨rfl, hL⟩
  rw [hL]
  clear hL
  refine yG ?_
  refine OS.call noGo rfl (fun _ => rfl) ((aw _).mono ?_)
  rintro v' L2 ⟨rfl, hL⟩
  refine yG ?_
  rfl
end Go.Proofs.Ytmaneoaliipccaa
