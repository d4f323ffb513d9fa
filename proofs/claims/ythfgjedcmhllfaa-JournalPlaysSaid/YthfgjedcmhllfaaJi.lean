/- Layer 4: the examples. -/
import Derived.Test.YthfgjedcmhllfaaJh
namespace Go.Proofs.Ythfgjedcmhllfaa
open Go.Am
set_option linter.unusedVariables false
set_option maxRecDepth 20000

theorem doD_good {s : Dk} {ps : List (Int × List UInt8)} (hd : s.dead = false) (hg : Good s.n ps) (hl : ps.length ≤ 120) (h0 : ps ≠ []) : doD s ps = runW s (doW ps) := by
  unfold doD
  rw [if_neg (by simp [hd]), if_neg (by omega), if_pos hg, if_neg h0]
theorem doD_bad {s : Dk} {ps : List (Int × List UInt8)} (hd : s.dead = false) (hg : ¬ Good s.n ps) (hl : ps.length ≤ 120) : doD s ps = (1, s) := by
  unfold doD
  rw [if_neg (by simp [hd]), if_neg (by omega), if_neg hg]
theorem doD_full {s : Dk} {ps : List (Int × List UInt8)} (hd : s.dead = false) (hl : 120 < ps.length) : doD s ps = (3, s) := by
  unfold doD
  rw [if_neg (by simp [hd]), if_pos hl]
theorem doD_empty {s : Dk} (hd : s.dead = false) : doD s [] = (0, s) := by
  unfold doD
  rw [if_neg (by simp [hd]), if_neg (by simp), if_pos ⟨fun p hp => (by cases hp), .nil⟩, if_pos rfl]
theorem doD_dead {s : Dk} {ps : List (Int × List UInt8)} (hd : s.dead = true) : doD s ps = (20, s) := by
  unfold doD
  rw [if_pos hd]

abbrev blkv (r : Nat) : Value := .slice (some ⟨r, 0, none⟩) 256 256
abbrev rep (c : UInt8) : List UInt8 := List.replicate 256 c
theorem reads_cons {L : RL} {g : Gw} {gs : List Gw} {m : Nat} (h : SV 1 L g.v m (byteCells g.d)) (hs : Reads L gs) : Reads L (g :: gs) := fun x hx => by
  rcases List.mem_cons.1 hx with rfl | hx
  · exact ⟨m, h⟩
  · exact hs x hx
theorem reads_nil {L : RL} : Reads L [] := fun x hx => by cases hx
theorem rep_len {c : UInt8} : (byteCells (rep c)).length = 256 * 1 := by rw [byteCells_len, List.length_replicate]

set_option maxHeartbeats 1000000 in
theorem awake_ct {L : RL} : CS Try.prog 29 [] L fun v L' => v = .bool true ∧ L' = L := by
  refine CS.mk (fn := Try.f29) rfl rfl rfl rfl ?_
  repeat refine LS.seq ?_
  refine LS.region rfl ?_
  refine OS.pure rfl (fun _ => rfl) rfl ?_
  refine OS.nil ?_
  repeat refine LS.seq ?_
  refine LS.region rfl ?_
  refine OS.call noGo rfl (fun _ => rfl) ((fresh_ct).mono ?_)
  rintro v L' ⟨rd, rb, rj, Y, D, rfl, rfl, hD, hz⟩
  refine ⟨_, rfl, ?_⟩
  refine OS.pure rfl (fun _ => rfl) rfl ?_
  refine OS.pure rfl (fun _ => rfl) rfl ?_
  refine OS.pure rfl (fun _ => rfl) rfl ?_
  refine OS.pure rfl (fun _ => rfl) rfl ?_
  refine OS.pure rfl (fun _ => rfl) rfl ?_
  refine OS.nil ?_
  have o0 : Dk.ok ⟨512, D, 0, false, 0, false⟩ := ok_of hD (by decide) (by decide) (by decide) (by decide)
  have g1 : Good 512 [(200, rep 97), (300, rep 98)] := ⟨fun p hp => by simp at hp; rcases hp with rfl | rfl <;> simp [plainP], by simp⟩
  obtain ⟨D1, hD1⟩ : ∃ D1, D1 = wrs D (doW [(200, rep 97), (300, rep 98)]) := ⟨_, rfl⟩
  obtain ⟨a1, a2, a3, a4⟩ := do_all g1 (by decide) (by decide) hD
  rw [← hD1] at a1 a2 a3 a4
  have r1 : doD ⟨512, D, 0, false, 0, false⟩ [(200, rep 97), (300, rep 98)] = (0, ⟨512, D1, 6, false, 0, false⟩) := by
    rw [doD_good rfl g1 (by decide) (by simp), runW_all rfl (g1.fitDo (by decide) (by decide)) (fun h => by cases h), doW_len, hD1]
    rfl
  have o1 : Dk.ok ⟨512, D1, 6, false, 0, false⟩ := ok_of a1 (by decide) (by decide) (by decide) (by decide)
  repeat refine LS.seq ?_
  refine LS.region rfl ?_
  refine OS.pure rfl (fun _ => rfl) rfl ?_
  refine OS.pure rfl (fun _ => rfl) rfl ?_
  refine OS.pure rfl (fun _ => rfl) rfl ?_
  refine OS.pure rfl (fun _ => rfl) rfl ?_
  refine OS.call noGo rfl (fun _ => rfl) ((full4_ct 97).mono ?_)
  rintro v L' ⟨ra, rfl, rfl⟩
  refine ⟨_, rfl, ?_⟩
  refine OS.pure rfl (fun _ => rfl) rfl ?_
  refine OS.call noGo rfl (fun _ => rfl) ((full4_ct 98).mono ?_)
  rintro v L' ⟨rb2, rfl, rfl⟩
  refine ⟨_, rfl, ?_⟩
  refine OS.pure rfl (fun _ => rfl) rfl ?_
  refine OS.fresh rfl (e_new (fun _ => rfl) rfl) (fun _ => rfl) (fun rs => ?_)
  refine OS.sub (Sub.pulls [5, 5, 5] rfl) ?_
  refine OS.call noGo rfl (fun _ => rfl) ((jDo_ct (gs := [⟨200, blkv ra, rep 97⟩, ⟨300, blkv rb2, rep 98⟩]) o0 (show 0 ≤ 800000 by decide) (SV.row (sz := 2) (n := 2) (List.mem_cons_self ..) rfl) (reads_cons (SV.row (List.mem_cons_of_mem _ (List.mem_cons_of_mem _ (List.mem_cons_self ..))) rep_len) (reads_cons (SV.row (List.mem_cons_of_mem _ (List.mem_cons_self ..)) rep_len) reads_nil))).mono ?_)
  rintro v L' ⟨rfl, rfl⟩
  rw [show bd [⟨200, blkv ra, rep 97⟩, ⟨300, blkv rb2, rep 98⟩] = [(200, rep 97), (300, rep 98)] from rfl, r1]
  refine ⟨_, rfl, ?_⟩
  refine OS.sub (Sub.drop 3 rfl) ?_
  refine OS.sub (Sub.drop 3 rfl) ?_
  refine OS.sub (Sub.drop 3 rfl) ?_
  refine OS.pure rfl (fun _ => rfl) rfl ?_
  refine OS.pure rfl (fun _ => rfl) rfl ?_
  refine OS.pure rfl (fun _ => rfl) rfl ?_
  refine OS.pure rfl (fun _ => rfl) rfl ?_
  refine OS.sub (Sub.pulls [2, 2] rfl) ?_
  refine OS.call noGo rfl (fun _ => rfl) ((Writes_ct).mono ?_)
  rintro v L' ⟨rfl, rfl⟩
  refine ⟨_, rfl, ?_⟩
  refine OS.sub (Sub.pulls [2] rfl) ?_
  refine OS.pure rfl (fun _ => rfl) rfl ?_
  refine OS.pure rfl (fun _ => rfl) rfl ?_
  refine OS.pure rfl (fun _ => rfl) rfl ?_
  refine OS.pure rfl (fun _ => rfl) rfl ?_
  refine OS.call noGo rfl (fun _ => rfl) ((holds_ct o1 rfl 200 (by simp [plainP]) 97).mono ?_)
  rintro v L' ⟨rfl, rfl⟩
  rw [a3 200 (rep 97) (by simp), decide_eq_true rfl]
  refine ⟨_, rfl, ?_⟩
  refine OS.pure rfl (fun _ => rfl) rfl ?_
  refine OS.pure rfl (fun _ => rfl) rfl ?_
  refine OS.pure rfl (fun _ => rfl) rfl ?_
  refine OS.pure rfl (fun _ => rfl) rfl ?_
  refine OS.call noGo rfl (fun _ => rfl) ((holds_ct o1 rfl 300 (by simp [plainP]) 98).mono ?_)
  rintro v L' ⟨rfl, rfl⟩
  rw [a3 300 (rep 98) (by simp), decide_eq_true rfl]
  refine ⟨_, rfl, ?_⟩
  refine OS.pure rfl (fun _ => rfl) rfl ?_
  refine OS.pure rfl (fun _ => rfl) rfl ?_
  refine OS.nil ?_
  refine LS.cond rfl (fun hc => by cases hc) (fun hc => ?_)
  refine LS.skip ?_
  have b1 : ¬ Good 512 [(5, rep 97)] := fun h => by have := (h.1 (5, rep 97) (by simp)).1; simp [plainP] at this
  have b2 : ¬ Good 512 [(0, rep 97), (0, rep 98)] := fun h => by have := h.2; simp at this
  repeat refine LS.seq ?_
  refine LS.region rfl ?_
  refine OS.pure rfl (fun _ => rfl) rfl ?_
  refine OS.call noGo rfl (fun _ => rfl) ((full4_ct 97).mono ?_)
  rintro v L' ⟨ra, rfl, rfl⟩
  refine ⟨_, rfl, ?_⟩
  refine OS.pure rfl (fun _ => rfl) rfl ?_
  refine OS.fresh rfl (e_new (fun _ => rfl) rfl) (fun _ => rfl) (fun rs => ?_)
  refine OS.sub (Sub.pulls [4, 4, 4] rfl) ?_
  refine OS.call noGo rfl (fun _ => rfl) ((jDo_ct (gs := [⟨5, blkv ra, rep 97⟩]) o1 (show 6 ≤ 800000 by decide) (SV.row (sz := 2) (n := 1) (List.mem_cons_self ..) rfl) (reads_cons (SV.row (List.mem_cons_of_mem _ (List.mem_cons_self ..)) rep_len) reads_nil)).mono ?_)
  rintro v L' ⟨rfl, rfl⟩
  rw [show bd [⟨5, blkv ra, rep 97⟩] = [(5, rep 97)] from rfl, doD_bad rfl b1 (by decide)]
  refine ⟨_, rfl, ?_⟩
  refine OS.sub (Sub.drop 3 rfl) ?_
  refine OS.sub (Sub.drop 3 rfl) ?_
  refine OS.pure rfl (fun _ => rfl) rfl ?_
  refine OS.pure rfl (fun _ => rfl) rfl ?_
  refine OS.pure rfl (fun _ => rfl) rfl ?_
  refine OS.call noGo rfl (fun _ => rfl) ((full4_ct 97).mono ?_)
  rintro v L' ⟨ra, rfl, rfl⟩
  refine ⟨_, rfl, ?_⟩
  refine OS.pure rfl (fun _ => rfl) rfl ?_
  refine OS.call noGo rfl (fun _ => rfl) ((full4_ct 98).mono ?_)
  rintro v L' ⟨rb2, rfl, rfl⟩
  refine ⟨_, rfl, ?_⟩
  refine OS.pure rfl (fun _ => rfl) rfl ?_
  refine OS.fresh rfl (e_new (fun _ => rfl) rfl) (fun _ => rfl) (fun rs => ?_)
  refine OS.sub (Sub.pulls [5, 5, 5] rfl) ?_
  refine OS.call noGo rfl (fun _ => rfl) ((jDo_ct (gs := [⟨0, blkv ra, rep 97⟩, ⟨0, blkv rb2, rep 98⟩]) o1 (show 6 ≤ 800000 by decide) (SV.row (sz := 2) (n := 2) (List.mem_cons_self ..) rfl) (reads_cons (SV.row (List.mem_cons_of_mem _ (List.mem_cons_of_mem _ (List.mem_cons_self ..))) rep_len) (reads_cons (SV.row (List.mem_cons_of_mem _ (List.mem_cons_self ..)) rep_len) reads_nil))).mono ?_)
  rintro v L' ⟨rfl, rfl⟩
  rw [show bd [⟨0, blkv ra, rep 97⟩, ⟨0, blkv rb2, rep 98⟩] = [(0, rep 97), (0, rep 98)] from rfl, doD_bad rfl b2 (by decide)]
  refine ⟨_, rfl, ?_⟩
  refine OS.sub (Sub.drop 3 rfl) ?_
  refine OS.sub (Sub.drop 3 rfl) ?_
  refine OS.sub (Sub.drop 3 rfl) ?_
  refine OS.pure rfl (fun _ => rfl) rfl ?_
  refine OS.pure rfl (fun _ => rfl) rfl ?_
  refine OS.pure rfl (fun _ => rfl) rfl ?_
  refine OS.pure rfl (fun _ => rfl) rfl ?_
  refine OS.call noGo rfl (fun _ => rfl) ((holds_ct o1 rfl 122 (by simp [plainP]) 0).mono ?_)
  rintro v L' ⟨rfl, rfl⟩
  rw [a4 122 (by simp [plainP]) (by simp), hz 122 (by omega), decide_eq_true rfl]
  refine ⟨_, rfl, ?_⟩
  refine OS.pure rfl (fun _ => rfl) rfl ?_
  refine OS.pure rfl (fun _ => rfl) rfl ?_
  refine OS.pure rfl (fun _ => rfl) rfl ?_
  refine OS.pure rfl (fun _ => rfl) rfl ?_
  refine OS.call noGo rfl (fun _ => rfl) ((holds_ct o1 rfl 0 (by simp [plainP]) 0).mono ?_)
  rintro v L' ⟨rfl, rfl⟩
  rw [a4 0 (by simp [plainP]) (by simp), hz 0 (by omega), decide_eq_true rfl]
  refine ⟨_, rfl, ?_⟩
  refine OS.pure rfl (fun _ => rfl) rfl ?_
  refine OS.pure rfl (fun _ => rfl) rfl ?_
  refine OS.pure rfl (fun _ => rfl) rfl ?_
  refine OS.pure rfl (fun _ => rfl) rfl ?_
  refine OS.sub (Sub.pulls [2, 2] rfl) ?_
  refine OS.call noGo rfl (fun _ => rfl) ((Cut_ct (s := ⟨512, D1, 6, false, 0, false⟩) rfl 1 (by decide)).mono ?_)
  rintro v L' ⟨rfl, rfl⟩
  refine ⟨_, rfl, ?_⟩
  refine OS.sub (Sub.pulls [2] rfl) ?_
  refine OS.pure rfl (fun _ => rfl) rfl ?_
  refine OS.pure rfl (fun _ => rfl) rfl ?_
  refine OS.nil ?_
  refine LS.cond rfl (fun hc => by cases hc) (fun hc => ?_)
  refine LS.skip ?_
  have o2 : Dk.ok ⟨512, D1, 6, true, 1, false⟩ := ok_of a1 (by decide) (by decide) (by decide) (by decide)
  have g2 : Good 512 [(200, rep 98), (300, rep 97)] := ⟨fun p hp => by simp at hp; rcases hp with rfl | rfl <;> simp [plainP], by simp⟩
  obtain ⟨D2, hD2⟩ : ∃ D2, D2 = wrs D1 ((doW [(200, rep 98), (300, rep 97)]).take 1) := ⟨_, rfl⟩
  obtain ⟨c1, c2, c3⟩ := lay_some (k := 1) g2 (by decide) (by decide) a1 (by decide)
  rw [← hD2] at c1 c2 c3
  have r2 : doD ⟨512, D1, 6, true, 1, false⟩ [(200, rep 98), (300, rep 97)] = (20, ⟨512, D2, 7, true, 0, true⟩) := by
    rw [doD_good rfl g2 (by decide) (by simp), runW_cut rfl (g2.fitDo (by decide) (by decide)) rfl (by rw [doW_len]; exact (show 1 < 2 * 2 + 2 by decide)), hD2]
    rfl
  have o3 : Dk.ok ⟨512, D2, 7, true, 0, true⟩ := ok_of c1 (by decide) (by decide) (by decide) (by decide)
  have o4 : Dk.ok ⟨512, D2, 0, false, 0, false⟩ := ok_of c1 (by decide) (by decide) (by decide) (by decide)
  repeat refine LS.seq ?_
  refine LS.region rfl ?_
  refine OS.pure rfl (fun _ => rfl) rfl ?_
  refine OS.call noGo rfl (fun _ => rfl) ((full4_ct 98).mono ?_)
  rintro v L' ⟨ra, rfl, rfl⟩
  refine ⟨_, rfl, ?_⟩
  refine OS.pure rfl (fun _ => rfl) rfl ?_
  refine OS.call noGo rfl (fun _ => rfl) ((full4_ct 97).mono ?_)
  rintro v L' ⟨rb2, rfl, rfl⟩
  refine ⟨_, rfl, ?_⟩
  refine OS.pure rfl (fun _ => rfl) rfl ?_
  refine OS.fresh rfl (e_new (fun _ => rfl) rfl) (fun _ => rfl) (fun rs => ?_)
  refine OS.sub (Sub.pulls [5, 5, 5] rfl) ?_
  refine OS.call noGo rfl (fun _ => rfl) ((jDo_ct (gs := [⟨200, blkv ra, rep 98⟩, ⟨300, blkv rb2, rep 97⟩]) o2 (show 6 ≤ 800000 by decide) (SV.row (sz := 2) (n := 2) (List.mem_cons_self ..) rfl) (reads_cons (SV.row (List.mem_cons_of_mem _ (List.mem_cons_of_mem _ (List.mem_cons_self ..))) rep_len) (reads_cons (SV.row (List.mem_cons_of_mem _ (List.mem_cons_self ..)) rep_len) reads_nil))).mono ?_)
  rintro v L' ⟨rfl, rfl⟩
  rw [show bd [⟨200, blkv ra, rep 98⟩, ⟨300, blkv rb2, rep 97⟩] = [(200, rep 98), (300, rep 97)] from rfl, r2]
  refine ⟨_, rfl, ?_⟩
  refine OS.sub (Sub.drop 3 rfl) ?_
  refine OS.sub (Sub.drop 3 rfl) ?_
  refine OS.sub (Sub.drop 3 rfl) ?_
  refine OS.sub (Sub.drop 0 rfl) ?_
  refine OS.pure rfl (fun _ => rfl) rfl ?_
  refine OS.nil ?_
  refine LS.cond rfl (fun hc => by cases hc) (fun hc => ?_)
  refine LS.skip ?_
  repeat refine LS.seq ?_
  refine LS.region rfl ?_
  refine OS.pure rfl (fun _ => rfl) rfl ?_
  refine OS.call noGo rfl (fun _ => rfl) ((Reopen_ct o3 rfl).mono ?_)
  rintro v L' ⟨rd', rb', rfl, rfl⟩
  refine ⟨_, rfl, ?_⟩
  refine OS.pure rfl (fun _ => rfl) rfl ?_
  refine OS.pure rfl (fun _ => rfl) rfl ?_
  refine OS.pure rfl (fun _ => rfl) rfl ?_
  refine OS.pure rfl (fun _ => rfl) rfl ?_
  refine OS.pure rfl (fun _ => rfl) rfl ?_
  refine OS.nil ?_
  repeat refine LS.seq ?_
  refine LS.region rfl ?_
  refine OS.pure rfl (fun _ => rfl) rfl ?_
  refine OS.pure rfl (fun _ => rfl) rfl ?_
  refine OS.nil ?_
  refine LS.cond rfl (fun hc => by cases hc) (fun hc => ?_)
  refine LS.skip ?_
  repeat refine LS.seq ?_
  refine LS.region rfl ?_
  refine OS.pure rfl (fun _ => rfl) rfl ?_
  refine OS.call noGo rfl (fun _ => rfl) ((Open_idle o4 rfl (c2.trans a2)).mono ?_)
  rintro v L' ⟨rj', Y', rfl, rfl⟩
  refine ⟨_, rfl, ?_⟩
  refine OS.pure rfl (fun _ => rfl) rfl ?_
  refine OS.pure rfl (fun _ => rfl) rfl ?_
  refine OS.pure rfl (fun _ => rfl) rfl ?_
  refine OS.pure rfl (fun _ => rfl) rfl ?_
  refine OS.pure rfl (fun _ => rfl) rfl ?_
  refine OS.nil ?_
  repeat refine LS.seq ?_
  refine LS.region rfl ?_
  refine OS.pure rfl (fun _ => rfl) rfl ?_
  refine OS.pure rfl (fun _ => rfl) rfl ?_
  refine OS.pure rfl (fun _ => rfl) rfl ?_
  refine OS.pure rfl (fun _ => rfl) rfl ?_
  refine OS.call noGo rfl (fun _ => rfl) ((holds_ct o4 rfl 200 (by simp [plainP]) 97).mono ?_)
  rintro v L' ⟨rfl, rfl⟩
  rw [c3 200 (by simp [plainP]), a3 200 (rep 97) (by simp), decide_eq_true rfl]
  refine ⟨_, rfl, ?_⟩
  refine OS.pure rfl (fun _ => rfl) rfl ?_
  refine OS.pure rfl (fun _ => rfl) rfl ?_
  refine OS.pure rfl (fun _ => rfl) rfl ?_
  refine OS.call noGo rfl (fun _ => rfl) ((holds_ct o4 rfl 300 (by simp [plainP]) 98).mono ?_)
  rintro v L' ⟨rfl, rfl⟩
  rw [c3 300 (by simp [plainP]), a3 300 (rep 98) (by simp), decide_eq_true rfl]
  refine ⟨_, rfl, ?_⟩
  refine OS.pure rfl (fun _ => rfl) rfl ?_
  refine OS.pure rfl (fun _ => rfl) rfl ?_
  refine OS.nil ?_
  refine LS.sub (Sub.trans (Sub.suffix (X := Y)) (Sub.trans (Sub.suffix (X := [_, _])) (Sub.trans (Sub.suffix (X := Y')) (Sub.suffix (X := [_, _, _]))))) ?_
  refine LS.ret ⟨_, fun _ _ => rfl, ?_⟩
  exact ⟨rfl, rfl⟩
end Go.Proofs.Ythfgjedcmhllfaa
