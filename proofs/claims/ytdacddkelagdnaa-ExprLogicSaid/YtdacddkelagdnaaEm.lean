/- Layer 11: what the laws lean on: large, round, row, holds, plain, opens. -/
import Derived.Test.YtdacddkelagdnaaEl
import Derived.Test.YtdacddkelagdnaaEb
namespace Go.Proofs.Ytdacddkelagdnaa
open Go.Am
set_option linter.unusedVariables false
set_option maxRecDepth 20000
set_option maxHeartbeats 4000000
attribute [local irreducible] OS LSr ODS CS

def tot (l : List W) : Nat := (l.map fun w => w.length + 1).sum
theorem tot_take {l : List W} {k : Nat} {w : W} (h : l[k]? = some w) : tot (l.take (k + 1)) = tot (l.take k) + 1 + w.length := by
  unfold tot; rw [List.take_add_one, h]; simp; omega
theorem tot_len (l : List W) : l.length ≤ tot l := by
  unfold tot
  induction l with
  | nil => exact Nat.le_refl _
  | cons x l ih => simp at ih ⊢; omega
theorem tot_mem {l : List W} {w : W} (h : w ∈ l) : w.length ≤ tot l := by
  unfold tot
  induction l with
  | nil => cases h
  | cons x l ih =>
    rcases List.mem_cons.1 h with rfl | h
    · simp; omega
    · have := ih h; simp at this ⊢; omega
/-- Words that a statement goes through. -/
def Fi3 (w : List W) : Prop := w.length ≤ 3000 ∧ ∀ t ∈ w, t.length ≤ 3000
theorem Fi3.fit {w : List W} (h : Fi3 w) : Fit w := ⟨Nat.le_trans h.1 (by decide), fun t ht => Nat.le_trans (h.2 t ht) (by decide)⟩
theorem large_ct {L : RL} {v : Value} {ws : List W} (hv : SV 1 L v ws.length (strs ws)) (hn : ws.length ≤ 9000000000000000) (hw : ∀ w ∈ ws, w.length ≤ 140737488355328) :
    CS Try.prog 14 [v] L fun u L' => ∃ b, u = .bool b ∧ (b = false → Fi3 ws) ∧ L' = L := by
  refine CS.mk (fn := Try.f14) rfl rfl rfl rfl ?_
  refine yG ?_
  refine LS.loopJ [0, 3, 4] (fun q a L' => ∃ k : Nat, q = ws.length - k ∧ k ≤ ws.length ∧ tot (ws.take k) ≤ 140737488360000 ∧ L' = L ∧ a = [v, .chan none, .chan none, .int .i64 (tot (ws.take k) : Nat), .int .i64 (k : Nat), .chan none, .chan none, .chan none, .chan none, .chan none, .chan none, .chan none, .chan none, .chan none, .chan none, .chan none, .chan none, .chan none, .chan none, .chan none, .chan none, .chan none, .chan none, .chan none, .chan none]) (n := ws.length) rfl ⟨0, rfl, by omega, by simp [tot], rfl, rfl⟩ ?_
  rintro q a L' ⟨k, rfl, hk, hm, hL, rfl⟩
  rw [hL]
  clear hL
  by_cases hc : k < ws.length
  · have b1 : (!ileB ((ws.length : Nat) : Int) (k : Nat)) = true := by rw [ileB_eq]; simp; omega
    by_cases h3 : tot (ws.take k) < 3000
    · have b2 : (!ileB 3000 ((tot (ws.take k) : Nat) : Int)) = true := by rw [ileB_eq]; simp; omega
      obtain ⟨w, hg⟩ := ext_list (l := ws) (k := k) hc
      have hwl := hw w (List.mem_of_getElem? hg)
      have htt := tot_take hg
      refine yG ?_
      refine OS.at1 (j := k) (hv) (strs_at hg) rfl rfl rfl rfl rfl rfl (fun ra0 oa0 rowa0 csa0 ma0 ca0 ga0 => ⟨_, rfl, ?_⟩)
      refine OS.read rfl (e_loadm ma0 ca0 rfl rfl (part_one rfl ga0)) rfl ?_
      refine yG ?_
      exact ⟨ws.length - (k + 1), by omega, k + 1, rfl, by omega, by omega, rfl, by rw [htt]; rfl⟩
    · have b2 : (!ileB 3000 ((tot (ws.take k) : Nat) : Int)) = false := by rw [ileB_eq]; simp; omega
      have b3 : ileB 3000 ((tot (ws.take k) : Nat) : Int) = true := by rw [ileB_eq]; simp; omega
      refine yG ?_
      refine LS.exit ?_
      refine yG ?_
      exact ⟨fun h => (by cases h), rfl⟩
  · have b1 : (!ileB ((ws.length : Nat) : Int) (k : Nat)) = false := by rw [ileB_eq]; simp; omega
    obtain rfl : k = ws.length := by omega
    rw [List.take_length] at hm ⊢
    have hl := tot_len ws
    refine yG ?_
    refine LS.exit ?_
    by_cases h3 : tot ws < 3000
    · have b3 : ileB 3000 ((tot ws : Nat) : Int) = false := by rw [ileB_eq]; simp; omega
      refine yG ?_
      exact ⟨fun _ => ⟨by omega, fun t ht => by have := tot_mem ht; omega⟩, rfl⟩
    · have b3 : ileB 3000 ((tot ws : Nat) : Int) = true := by rw [ileB_eq]; simp; omega
      refine yG ?_
      exact ⟨fun h => (by cases h), rfl⟩
theorem round_ct {F : RL} {v : Value} {ws : List W} (hv : SV 1 F v ws.length (strs ws)) (hn : ws.length ≤ 100000) : CS Try.prog 18 [v] F fun u L' => GT F u (brk ws) L' := by
  refine CS.mk (fn := Try.f18) rfl rfl rfl rfl ?_
  refine yG ?_
  refine OS.fresh rfl (e_new (fun _ => rfl) rfl) (fun _ => rfl) (fun r1 => ?_)
  refine OS.opened 4 0 (sz := 1) rfl rfl rfl (by simp) (by decide) rfl ?_
  refine yG ?_
  refine OS.fresh rfl (e_appendSV 0 (sz := 1) (bts := 16) (old := [str wOpen]) hv.cons (strs_one ws) rfl rfl rfl (by omega) (by omega) rfl rfl rfl) (fun _ => rfl) (fun r2 => ?_)
  refine yG ?_
  refine OS.fresh rfl (e_new (fun _ => rfl) rfl) (fun _ => rfl) (fun r3 => ?_)
  have hg : GV 9 1 F (.slice (some ⟨r2, 0, none⟩) (1 + ws.length) openCap) (1 + ws.length) ([str wOpen] ++ strs ws) ((r2, .cells 9 ([str wOpen] ++ strs ws)) :: F) := GV.of (by simp [strs_len]; omega)
  refine OS.fresh rfl (e_appendGV [(r3, .cells 9 [str wClose])] (sz := 1) (bts := 16) (m := 1) (new := [str wClose]) hg (SV.row (List.mem_cons_self ..) rfl) (by decide) rfl rfl rfl rfl (by omega) (by omega)) (fun _ => rfl) (fun r4 => ?_)
  refine OS.sub (Sub.drop 1 rfl) ?_
  refine yG ?_
  have hl : (brk ws).length = 1 + ws.length + 1 := by simp [brk]; omega
  have hc : strs (brk ws) = ([str wOpen] ++ strs ws) ++ [str wClose] := by simp [brk, strs]
  unfold GT
  rw [hl, hc]
  exact GV.of (by simp [strs_len]; omega)
/-- Lists of words. -/
def ElW (L : RL) : List (List W) → List Value → Prop
  | [], cs => cs = []
  | w :: wss, cs => ∃ A n cp ds, cs = .slice A n cp :: ds ∧ SV 1 L (.slice A n cp) w.length (strs w) ∧ 0 < w.length ∧ ElW L wss ds
theorem ElW.mono {L M : RL} (hm : ∀ p, p ∈ L → p ∈ M) : ∀ {wss : List (List W)} {cs : List Value}, ElW L wss cs → ElW M wss cs
  | [], _, h => h
  | _ :: _, _, ⟨A, n, cp, ds, h1, h2, h3, h4⟩ => ⟨A, n, cp, ds, h1, h2.mono hm, h3, h4.mono hm⟩
theorem row_ct {F : RL} {v : Value} {n : Nat} {cs : List Value} {wss : List (List W)} (hv : SV 1 F v n cs) (hel : ElW F wss cs) (hn : n ≤ 100) (hl : wss.flatten.length ≤ 100000) : CS Try.prog 21 [v] F fun u L' => GT F u wss.flatten L' := by
  have hlen := hv.len
  refine CS.mk (fn := Try.f21) rfl rfl rfl rfl ?_
  refine yG ?_
  refine LS.loopJ [0, 3, 4] (fun q a L' => ∃ (k : Nat) (u : Value) (T : List W) (ws' : List (List W)), q = n - k ∧ k ≤ n ∧ ElW F ws' (cs.drop k) ∧ wss.flatten = T ++ ws'.flatten ∧ GT F u T L' ∧ a = [v, .chan none, .chan none, u, .int .i64 (k : Nat), .chan none, .chan none, .chan none, .chan none, .chan none, .chan none, .chan none, .chan none, .chan none, .chan none, .chan none, .chan none, .chan none]) (n := n) rfl ⟨0, .slice none 0 0, [], wss, rfl, by omega, by simpa using hel, rfl, .nil, rfl⟩ ?_
  rintro q a L' ⟨k, u, T, ws', rfl, hk, hel', hT, hg, rfl⟩
  have hvL := hv.mono hg.mem
  refine yG ?_
  repeat refine LS.seq ?_
  refine LS.cond rfl (fun hc => ?_) (fun hc => ?_)
  · have hc := lt_of hc
    have hne := drop_some hlen (k := k) (by omega)
    match ws', hel' with
    | [], h => exact absurd h hne
    | w :: ws', ⟨A, m, cp, ds, hd, hs, hpos, hrest⟩ =>
    obtain ⟨hgk, hd'⟩ := drop_get hd
    have hTl := congrArg List.length hT
    simp only [List.flatten_cons, List.length_append] at hTl
    refine LS.skip ?_
    repeat refine LS.seq ?_
    refine LS.block ?_
    refine yG ?_
    refine OS.at1 (j := k) (hvL) (hgk) rfl rfl rfl rfl rfl rfl (fun ra0 oa0 rowa0 csa0 ma0 ca0 ga0 => ⟨_, rfl, ?_⟩)
    refine OS.read rfl (e_loadm ma0 ca0 rfl rfl (part_one rfl ga0)) rfl ?_
    refine OS.fresh rfl (e_appendGV [] (sz := 1) (bts := 16) (m := w.length) (new := strs w) hg (hs.mono hg.mem) hpos (strs_one w) rfl rfl rfl (by omega) (by omega)) (fun _ => rfl) (fun r2 => ?_)
    refine yG ?_
    refine ⟨n - (k + 1), by omega, k + 1, _, T ++ w, ws', rfl, by omega, by rw [hd']; exact hrest, by rw [hT]; simp, ?_, rfl⟩
    unfold GT
    rw [strs_app, List.length_append]
    exact GV.of (by simp [strs_len])
  · have hc := nlt_of hc
    have hnil := drop_nil hlen (k := k) (by omega)
    rw [hnil] at hel'
    refine LS.exit ?_
    refine yG ?_
    match ws', hel' with
    | [], _ => exact hg.to (by rw [hT]; simp)
    | w :: ws', ⟨_, _, _, _, h, _⟩ => cases h
theorem lawHolds_ct {F : RL} {s : Value} {w : List W} (hs : Wd F s w) (hf : Fit w) : CS Try.prog 20 [s] F fun v L' => v = .tuple #[.bool (valB (parse w)), .bool (decide (errN (parse w) = 0))] ∧ L' = F := by
  have hV := Value_ct hs hf
  generalize parse w = res at hV ⊢
  have hb : ieqB ((errN res : Nat) : Int) 0 = decide (errN res = 0) := by rw [ieqB_eq, Bool.eq_iff_iff, beq_iff_eq, decide_eq_true_iff]; omega
  refine CS.mk (fn := Try.f20) rfl rfl rfl rfl ?_
  refine yG ?_
  refine OS.call noGo rfl (fun _ => rfl) ((hV).mono ?_)
  rintro v L' ⟨rfl, rfl⟩
  refine yG ?_
  exact ⟨rfl, rfl⟩
/-- Words that are a condition that does not begin with an operator. -/
def plainB (w : List W) : Bool := match parse w with
  | .err _ => false
  | .ok _ _ => match w with
    | [] => false
    | y :: _ => decide (opN y = 0)
theorem plain_ct {F : RL} {s : Value} {w : List W} (hs : Wd F s w) (hf : Fit w) : CS Try.prog 19 [s] F fun v L' => v = .bool (plainB w) ∧ L' = F := by
  have hP := Parse_ct hs (Nat.le_trans hf.1 (by decide))
  suffices hh : CS Try.prog 19 [s] F fun v L' => v = .bool (plainB w) ∧ ∃ Y, L' = Y ++ F from
    hh.less fun v L' ⟨h1, Y, h2⟩ => ⟨F, by rw [h2]; exact ⟨Y, List.perm_append_comm⟩, h1, rfl⟩
  unfold plainB
  have hpos : ∀ x r, parse w = .ok x r → 0 < w.length := fun x r h => by have := (parse_sd h).lt3; omega
  generalize parse w = res at hP hpos ⊢
  refine CS.mk (fn := Try.f19) rfl rfl rfl rfl ?_
  refine yG ?_
  refine OS.call noGo rfl (fun _ => rfl) ((hP).mono ?_)
  cases res with
  | err e =>
    rintro v L' ⟨rfl, he, hL⟩
    rw [hL]
    clear hL
    rcases he with rfl | rfl
    · refine yG ?_
      exact ⟨rfl, [], rfl⟩
    · refine yG ?_
      exact ⟨rfl, [], rfl⟩
  | ok x r =>
    rintro v L' ⟨u, Y, rfl, rfl, _⟩
    match w, hpos x r rfl with
    | y :: w, _ =>
    have hv : SV 1 (Y ++ F) s (y :: w).length (strs (y :: w)) := hs.sv.mono fun p hp => List.mem_append_right _ hp
    by_cases h1 : y = wSame
    · have b1 : (!bytesEq y [61, 61]) = false := by rw [beq_bytes]; simpa [wSame] using h1
      refine yG ?_
      refine OS.at1 (j := 0) (hv) (strs_at (w := y) rfl) rfl rfl rfl rfl rfl rfl (fun ra0 oa0 rowa0 csa0 ma0 ca0 ga0 => ⟨_, rfl, ?_⟩)
      refine OS.read rfl (e_loadm ma0 ca0 rfl rfl (part_one rfl ga0)) rfl ?_
      refine yG ?_
      exact ⟨by subst h1; rfl, Y, rfl⟩
    have b1 : (!bytesEq y [61, 61]) = true := by rw [beq_bytes]; simpa [wSame] using h1
    by_cases h2 : y = wOther
    · have b2 : (!bytesEq y [33, 61]) = false := by rw [beq_bytes]; simpa [wOther] using h2
      refine yG ?_
      refine OS.at1 (j := 0) (hv) (strs_at (w := y) rfl) rfl rfl rfl rfl rfl rfl (fun ra0 oa0 rowa0 csa0 ma0 ca0 ga0 => ⟨_, rfl, ?_⟩)
      refine OS.read rfl (e_loadm ma0 ca0 rfl rfl (part_one rfl ga0)) rfl ?_
      refine yG ?_
      refine OS.at1 (j := 0) (hv) (strs_at (w := y) rfl) rfl rfl rfl rfl rfl rfl (fun ra2 oa2 rowa2 csa2 ma2 ca2 ga2 => ⟨_, rfl, ?_⟩)
      refine OS.read rfl (e_loadm ma2 ca2 rfl rfl (part_one rfl ga2)) rfl ?_
      refine yG ?_
      exact ⟨by subst h2; rfl, Y, rfl⟩
    have b2 : (!bytesEq y [33, 61]) = true := by rw [beq_bytes]; simpa [wOther] using h2
    by_cases h3 : y = wLike
    · have b3 : (!bytesEq y [126]) = false := by rw [beq_bytes]; simpa [wLike] using h3
      refine yG ?_
      refine OS.at1 (j := 0) (hv) (strs_at (w := y) rfl) rfl rfl rfl rfl rfl rfl (fun ra0 oa0 rowa0 csa0 ma0 ca0 ga0 => ⟨_, rfl, ?_⟩)
      refine OS.read rfl (e_loadm ma0 ca0 rfl rfl (part_one rfl ga0)) rfl ?_
      refine yG ?_
      refine OS.at1 (j := 0) (hv) (strs_at (w := y) rfl) rfl rfl rfl rfl rfl rfl (fun ra2 oa2 rowa2 csa2 ma2 ca2 ga2 => ⟨_, rfl, ?_⟩)
      refine OS.read rfl (e_loadm ma2 ca2 rfl rfl (part_one rfl ga2)) rfl ?_
      refine yG ?_
      refine OS.at1 (j := 0) (hv) (strs_at (w := y) rfl) rfl rfl rfl rfl rfl rfl (fun ra3 oa3 rowa3 csa3 ma3 ca3 ga3 => ⟨_, rfl, ?_⟩)
      refine OS.read rfl (e_loadm ma3 ca3 rfl rfl (part_one rfl ga3)) rfl ?_
      refine yG ?_
      exact ⟨by subst h3; rfl, Y, rfl⟩
    have b3 : (!bytesEq y [126]) = true := by rw [beq_bytes]; simpa [wLike] using h3
    have e0 : opN y = 0 := by unfold opN; rw [if_neg h1, if_neg h2, if_neg h3]
    refine yG ?_
    refine OS.at1 (j := 0) (hv) (strs_at (w := y) rfl) rfl rfl rfl rfl rfl rfl (fun ra0 oa0 rowa0 csa0 ma0 ca0 ga0 => ⟨_, rfl, ?_⟩)
    refine OS.read rfl (e_loadm ma0 ca0 rfl rfl (part_one rfl ga0)) rfl ?_
    refine yG ?_
    refine OS.at1 (j := 0) (hv) (strs_at (w := y) rfl) rfl rfl rfl rfl rfl rfl (fun ra2 oa2 rowa2 csa2 ma2 ca2 ga2 => ⟨_, rfl, ?_⟩)
    refine OS.read rfl (e_loadm ma2 ca2 rfl rfl (part_one rfl ga2)) rfl ?_
    refine yG ?_
    refine OS.at1 (j := 0) (hv) (strs_at (w := y) rfl) rfl rfl rfl rfl rfl rfl (fun ra3 oa3 rowa3 csa3 ma3 ca3 ga3 => ⟨_, rfl, ?_⟩)
    refine OS.read rfl (e_loadm ma3 ca3 rfl rfl (part_one rfl ga3)) rfl ?_
    refine yG ?_
    exact ⟨(congrArg Value.bool (decide_eq_true e0)).symm, Y, rfl⟩
theorem opens_ct {L : RL} {v : Value} {ws : List W} (hv : SV 1 L v ws.length (strs ws)) (hn : ws.length ≤ 100000) : CS Try.prog 22 [v] L fun u L' => ∃ b, u = .bool b ∧ ((∃ o ∈ ws, opN o ≠ 0) → b = true) ∧ L' = L := by
  refine CS.mk (fn := Try.f22) rfl rfl rfl rfl ?_
  refine yG ?_
  refine LS.loopJ [0, 3] (fun q a L' => ∃ k : Nat, q = ws.length - k ∧ k ≤ ws.length ∧ (∀ o ∈ ws.take k, opN o = 0) ∧ L' = L ∧ a = [v, .chan none, .chan none, .int .i64 (k : Nat), .chan none, .chan none, .chan none, .chan none, .chan none, .chan none, .chan none, .chan none, .chan none, .chan none, .chan none, .chan none, .chan none, .chan none, .chan none, .chan none, .chan none, .chan none, .chan none, .chan none, .chan none, .chan none, .chan none, .chan none, .chan none, .chan none, .chan none, .chan none, .chan none, .chan none, .chan none, .chan none]) (n := ws.length) rfl ⟨0, rfl, by omega, by simp, rfl, rfl⟩ ?_
  rintro q a L' ⟨k, rfl, hk, hall, hL, rfl⟩
  rw [hL]
  clear hL
  refine yG ?_
  repeat refine LS.seq ?_
  refine LS.cond rfl (fun hc => ?_) (fun hc => ?_)
  · have hc := lt_of hc
    obtain ⟨y, hg⟩ := ext_list (l := ws) (k := k) (by omega)
    refine LS.skip ?_
    repeat refine LS.seq ?_
    refine LS.block ?_
    refine yG ?_
    refine OS.at1 (j := k) (hv) (strs_at hg) rfl rfl rfl rfl rfl rfl (fun ra0 oa0 rowa0 csa0 ma0 ca0 ga0 => ⟨_, rfl, ?_⟩)
    refine OS.read rfl (e_loadm ma0 ca0 rfl rfl (part_one rfl ga0)) rfl ?_
    by_cases h0 : y = wClose
    · have b0 : bytesEq y [41] = true := by rw [beq_bytes]; exact decide_eq_true h0
      refine yG ?_
      exact ⟨fun _ => rfl, rfl⟩
    have b0 : bytesEq y [41] = false := by rw [beq_bytes]; exact decide_eq_false h0
    by_cases h1 : y = wSame
    · have b1 : bytesEq y [61, 61] = true := by rw [beq_bytes]; exact decide_eq_true h1
      refine yG ?_
      refine OS.at1 (j := k) (hv) (strs_at hg) rfl rfl rfl rfl rfl rfl (fun ra2 oa2 rowa2 csa2 ma2 ca2 ga2 => ⟨_, rfl, ?_⟩)
      refine OS.read rfl (e_loadm ma2 ca2 rfl rfl (part_one rfl ga2)) rfl ?_
      refine yG ?_
      exact ⟨fun _ => rfl, rfl⟩
    have b1 : bytesEq y [61, 61] = false := by rw [beq_bytes]; exact decide_eq_false h1
    by_cases h2 : y = wOther
    · have b2 : bytesEq y [33, 61] = true := by rw [beq_bytes]; exact decide_eq_true h2
      refine yG ?_
      refine OS.at1 (j := k) (hv) (strs_at hg) rfl rfl rfl rfl rfl rfl (fun ra2 oa2 rowa2 csa2 ma2 ca2 ga2 => ⟨_, rfl, ?_⟩)
      refine OS.read rfl (e_loadm ma2 ca2 rfl rfl (part_one rfl ga2)) rfl ?_
      refine yG ?_
      refine OS.at1 (j := k) (hv) (strs_at hg) rfl rfl rfl rfl rfl rfl (fun ra3 oa3 rowa3 csa3 ma3 ca3 ga3 => ⟨_, rfl, ?_⟩)
      refine OS.read rfl (e_loadm ma3 ca3 rfl rfl (part_one rfl ga3)) rfl ?_
      refine yG ?_
      exact ⟨fun _ => rfl, rfl⟩
    have b2 : bytesEq y [33, 61] = false := by rw [beq_bytes]; exact decide_eq_false h2
    by_cases h3 : y = wLike
    · have b3 : bytesEq y [126] = true := by rw [beq_bytes]; exact decide_eq_true h3
      refine yG ?_
      refine OS.at1 (j := k) (hv) (strs_at hg) rfl rfl rfl rfl rfl rfl (fun ra2 oa2 rowa2 csa2 ma2 ca2 ga2 => ⟨_, rfl, ?_⟩)
      refine OS.read rfl (e_loadm ma2 ca2 rfl rfl (part_one rfl ga2)) rfl ?_
      refine yG ?_
      refine OS.at1 (j := k) (hv) (strs_at hg) rfl rfl rfl rfl rfl rfl (fun ra3 oa3 rowa3 csa3 ma3 ca3 ga3 => ⟨_, rfl, ?_⟩)
      refine OS.read rfl (e_loadm ma3 ca3 rfl rfl (part_one rfl ga3)) rfl ?_
      refine yG ?_
      refine OS.at1 (j := k) (hv) (strs_at hg) rfl rfl rfl rfl rfl rfl (fun ra4 oa4 rowa4 csa4 ma4 ca4 ga4 => ⟨_, rfl, ?_⟩)
      refine OS.read rfl (e_loadm ma4 ca4 rfl rfl (part_one rfl ga4)) rfl ?_
      refine yG ?_
      exact ⟨fun _ => rfl, rfl⟩
    have b3 : bytesEq y [126] = false := by rw [beq_bytes]; exact decide_eq_false h3
    have e0 : opN y = 0 := by unfold opN; rw [if_neg h1, if_neg h2, if_neg h3]
    refine yG ?_
    refine OS.at1 (j := k) (hv) (strs_at hg) rfl rfl rfl rfl rfl rfl (fun ra2 oa2 rowa2 csa2 ma2 ca2 ga2 => ⟨_, rfl, ?_⟩)
    refine OS.read rfl (e_loadm ma2 ca2 rfl rfl (part_one rfl ga2)) rfl ?_
    refine yG ?_
    refine OS.at1 (j := k) (hv) (strs_at hg) rfl rfl rfl rfl rfl rfl (fun ra3 oa3 rowa3 csa3 ma3 ca3 ga3 => ⟨_, rfl, ?_⟩)
    refine OS.read rfl (e_loadm ma3 ca3 rfl rfl (part_one rfl ga3)) rfl ?_
    refine yG ?_
    refine OS.at1 (j := k) (hv) (strs_at hg) rfl rfl rfl rfl rfl rfl (fun ra4 oa4 rowa4 csa4 ma4 ca4 ga4 => ⟨_, rfl, ?_⟩)
    refine OS.read rfl (e_loadm ma4 ca4 rfl rfl (part_one rfl ga4)) rfl ?_
    refine yG ?_
    refine ⟨ws.length - (k + 1), by omega, k + 1, rfl, by omega, fun o ho => ?_, rfl, rfl⟩
    rw [List.take_add_one, hg] at ho
    rcases List.mem_append.1 ho with ho | ho
    · exact hall o ho
    · simp at ho; subst ho; exact e0
  · have hc := nlt_of hc
    obtain rfl : k = ws.length := by omega
    refine LS.exit ?_
    refine yG ?_
    rw [List.take_length] at hall
    exact ⟨fun ⟨o, ho, h⟩ => absurd (hall o ho) h, rfl⟩
end Go.Proofs.Ytdacddkelagdnaa
