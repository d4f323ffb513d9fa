/- Layer 4: what is opened; the statements' own helpers. -/
import Derived.Test.YthfgjedcmhllfaaJg
namespace Go.Am
theorem bytes_dec (xs ys : List UInt8) : bytesEq xs ys = decide (xs = ys) := by rw [bytesEq_eq]; by_cases h : xs = ys <;> simp [h]
theorem Sub.suffix {X L : RL} : Sub L (X ++ L) := ⟨X, List.perm_append_comm⟩
theorem Sub.trans {A B C : RL} (h : Sub A B) (g : Sub B C) : Sub A C := by
  obtain ⟨M, hM⟩ := h
  obtain ⟨N, hN⟩ := g
  exact ⟨M ++ N, by rw [← List.append_assoc]; exact hN.trans (hM.append_right N)⟩
end Go.Am
namespace Go.Proofs.Ythfgjedcmhllfaa
open Go.Am
set_option linter.unusedVariables false
set_option maxRecDepth 20000

theorem told_idle {s : Dk} (h : blk s.D 1 = zeros) : Told s [] := by
  refine ⟨Nat.zero_le _, ?_, fun i p hp => by simp at hp⟩
  rw [h]; rfl
theorem told_pend {s : Dk} {ps : List (Int × List UInt8)} (hs : s.ok) (hg : Good s.n ps) (hl : ps.length ≤ 120) (h1 : blk s.D 1 = headB ps) (h2 : ∀ i p, ps[i]? = some p → blk s.D (2 + i) = p.2) : Told s ps := by
  refine ⟨hl, by rw [h1]; exact headB_count, fun i p hp => ?_⟩
  obtain ⟨a, b⟩ := headB_at hp hl
  have hfit := hg.fit hs.2.1 p (List.mem_of_getElem? hp)
  have := hs.2.2.1
  exact ⟨by rw [h1]; exact a, by rw [h1]; exact b, hfit.1, by omega, (h2 i p hp).symm⟩

theorem Open_idle {F : RL} {rd rb : Nat} {s : Dk} (hs : s.ok) (hd : s.dead = false) (h0 : blk s.D 1 = zeros) :
    CS Try.prog 28 [ptr rd] (dk rd rb s F) fun v L' => ∃ rj Y, v = .tuple #[ptr rj, .int .i64 0] ∧ L' = jn rj rd rb s (Y ++ F) := by
  refine CS.mk (fn := Try.f28) rfl rfl rfl rfl ?_
  repeat refine LS.seq ?_
  refine LS.region rfl ?_
  refine OS.pure rfl (fun _ => rfl) rfl ?_
  refine OS.pure rfl (fun _ => rfl) rfl ?_
  refine OS.nil ?_
  repeat refine LS.seq ?_
  refine LS.region rfl ?_
  refine OS.pure rfl (fun _ => rfl) rfl ?_
  refine OS.call noGo rfl (fun _ => rfl) ((pending_ct hs hd (told_idle h0)).mono ?_)
  rintro v L' ⟨w, Y, rfl, rfl, hw⟩
  have hw : w = .slice none 0 0 ∨ ∃ r, w = .slice (some ⟨r, 0, none⟩) 0 0 := by
    rcases hw with ⟨rfl, _⟩ | ⟨r, gs, rfl, _⟩
    · exact .inl rfl
    · exact .inr ⟨r, rfl⟩
  rcases hw with rfl | ⟨r, rfl⟩
  all_goals
    refine ⟨_, rfl, ?_⟩
    refine OS.pure rfl (fun _ => rfl) rfl ?_
    refine OS.pure rfl (fun _ => rfl) rfl ?_
    refine OS.pure rfl (fun _ => rfl) rfl ?_
    refine OS.pure rfl (fun _ => rfl) rfl ?_
    refine OS.pure rfl (fun _ => rfl) rfl ?_
    refine OS.nil ?_
    repeat refine LS.seq ?_
    refine LS.region rfl ?_
    refine OS.pure rfl (fun _ => rfl) rfl ?_
    refine OS.pure rfl (fun _ => rfl) rfl ?_
    refine OS.pure rfl (fun _ => rfl) rfl ?_
    refine OS.pure rfl (fun _ => rfl) rfl ?_
    refine OS.pure rfl (fun _ => rfl) rfl ?_
    refine OS.pure rfl (fun _ => rfl) rfl ?_
    refine OS.pure rfl (fun _ => rfl) rfl ?_
    refine OS.nil ?_
    refine LS.cond rfl (fun hc => by cases hc) (fun hc => ?_)
    refine LS.skip ?_
    repeat refine LS.seq ?_
    refine LS.region rfl ?_
    refine OS.pure rfl (fun _ => rfl) rfl ?_
    refine OS.pure rfl (fun _ => rfl) rfl ?_
    refine OS.nil ?_
    refine LS.cond rfl (fun hc => by cases hc) (fun hc => ?_)
    refine LS.skip ?_
    repeat refine LS.seq ?_
    refine LS.region rfl ?_
    refine OS.pure rfl (fun _ => rfl) rfl ?_
    refine OS.pure rfl (fun _ => rfl) rfl ?_
    refine OS.fresh rfl (e_new (fun _ => rfl) rfl) (fun _ => rfl) (fun rj => ?_)
    refine OS.pure rfl (fun _ => rfl) rfl ?_
    refine OS.pure rfl (fun _ => rfl) rfl ?_
    refine OS.nil ?_
    refine LS.ret ⟨_, fun _ _ => rfl, ?_⟩
    exact ⟨rj, Y, rfl, rfl⟩

theorem Open_pend {F : RL} {rd rb : Nat} {s : Dk} {ps : List (Int × List UInt8)} (hs : s.ok) (hw : s.wr ≤ 800000) (hd : s.dead = false) (hg : Good s.n ps) (hl : ps.length ≤ 120) (h0 : ps ≠ []) (h1 : blk s.D 1 = headB ps) (h2 : ∀ i p, ps[i]? = some p → blk s.D (2 + i) = p.2) :
    CS Try.prog 28 [ptr rd] (dk rd rb s F) fun v L' => ∃ Y, ((runW s (finW ps)).1 = 0 ∧ ∃ rj, v = .tuple #[ptr rj, .int .i64 0] ∧ L' = jn rj rd rb (runW s (finW ps)).2 (Y ++ F)) ∨
      ((runW s (finW ps)).1 ≠ 0 ∧ v = .tuple #[.pointer none, .int .i64 (runW s (finW ps)).1] ∧ L' = dk rd rb (runW s (finW ps)).2 (Y ++ F)) := by
  have hpos : 0 < ps.length := List.length_pos_iff.2 h0
  refine CS.mk (fn := Try.f28) rfl rfl rfl rfl ?_
  repeat refine LS.seq ?_
  refine LS.region rfl ?_
  refine OS.pure rfl (fun _ => rfl) rfl ?_
  refine OS.pure rfl (fun _ => rfl) rfl ?_
  refine OS.nil ?_
  repeat refine LS.seq ?_
  refine LS.region rfl ?_
  refine OS.pure rfl (fun _ => rfl) rfl ?_
  refine OS.call noGo rfl (fun _ => rfl) ((pending_ct hs hd (told_pend hs hg hl h1 h2)).mono ?_)
  rintro v L' ⟨w, Y, rfl, rfl, hw⟩
  rcases hw with ⟨rfl, hno⟩ | ⟨r, gs, rfl, hbd, hsv, hrd, _, _⟩
  · exact absurd ⟨hg, h1⟩ hno
  have hq : (!ileB ((ps.length : Nat) : Int) 0) = true := by rw [ileB_eq]; simp; omega
  have hgs : Good s.n (bd gs) := by rw [hbd]; exact hg
  refine ⟨_, rfl, ?_⟩
  refine OS.pure rfl (fun _ => rfl) rfl ?_
  refine OS.pure rfl (fun _ => rfl) rfl ?_
  refine OS.pure rfl (fun _ => rfl) rfl ?_
  refine OS.pure rfl (fun _ => rfl) rfl ?_
  refine OS.pure rfl (fun _ => rfl) rfl ?_
  refine OS.nil ?_
  repeat refine LS.seq ?_
  refine LS.region rfl ?_
  refine OS.pure rfl (fun _ => rfl) rfl ?_
  refine OS.pure rfl (fun _ => rfl) rfl ?_
  refine OS.pure rfl (fun _ => rfl) rfl ?_
  refine OS.pure rfl (fun _ => rfl) rfl ?_
  refine OS.pure rfl (fun _ => rfl) rfl ?_
  refine OS.pure rfl (e_is (fun _ => rfl) (congrArg Value.bool hq)) rfl ?_
  refine OS.pure rfl (fun _ => rfl) rfl ?_
  refine OS.nil ?_
  refine LS.cond rfl (fun hc => ?_) (fun hc => by cases hc)
  have hfin := finish_ct (rd := rd) (rb := rb) (F := Y ++ F) (s := s) (gs := gs) (hsv.mono (fun p hp => List.mem_append_left _ hp)) (hrd.mono (fun p hp => List.mem_append_left _ hp)) (good_256 hgs) hl hs (by omega)
  rw [hbd] at hfin
  repeat refine LS.seq ?_
  refine LS.region rfl ?_
  refine OS.pure rfl (fun _ => rfl) rfl ?_
  refine OS.pure rfl (fun _ => rfl) rfl ?_
  refine OS.call noGo rfl (fun _ => rfl) ((hfin).mono ?_)
  rintro v L' ⟨rfl, rfl⟩
  refine ⟨_, rfl, ?_⟩
  refine OS.pure rfl (fun _ => rfl) rfl ?_
  refine OS.nil ?_
  by_cases he : (runW s (finW ps)).1 = 0
  · have hq2 : (!ieqB (runW s (finW ps)).1 0) = false := by rw [he]; rfl
    repeat refine LS.seq ?_
    refine LS.region rfl ?_
    refine OS.pure rfl (fun _ => rfl) rfl ?_
    refine OS.pure rfl (e_is (fun _ => rfl) (congrArg Value.bool hq2)) rfl ?_
    refine OS.nil ?_
    refine LS.cond rfl (fun hc => by cases hc) (fun hc => ?_)
    refine LS.skip ?_
    repeat refine LS.seq ?_
    refine LS.region rfl ?_
    refine OS.pure rfl (fun _ => rfl) rfl ?_
    refine OS.pure rfl (fun _ => rfl) rfl ?_
    refine OS.fresh rfl (e_new (fun _ => rfl) rfl) (fun _ => rfl) (fun rj => ?_)
    refine OS.pure rfl (fun _ => rfl) rfl ?_
    refine OS.pure rfl (fun _ => rfl) rfl ?_
    refine OS.nil ?_
    refine LS.ret ⟨_, fun _ _ => rfl, ?_⟩
    exact ⟨Y, .inl ⟨he, rj, rfl, rfl⟩⟩
  · repeat refine LS.seq ?_
    refine LS.region rfl ?_
    refine OS.pure rfl (fun _ => rfl) rfl ?_
    refine OS.pure rfl (e_is (fun _ => rfl) (congrArg Value.bool (ne_of he))) rfl ?_
    refine OS.nil ?_
    refine LS.cond rfl (fun hc => ?_) (fun hc => by cases hc)
    repeat refine LS.seq ?_
    refine LS.region rfl ?_
    refine OS.pure rfl (fun _ => rfl) rfl ?_
    refine OS.pure rfl (fun _ => rfl) rfl ?_
    refine OS.pure rfl (fun _ => rfl) rfl ?_
    refine OS.nil ?_
    refine LS.ret ⟨_, fun _ _ => rfl, ?_⟩
    exact ⟨Y, .inr ⟨he, rfl, rfl⟩⟩

theorem pending_refused {L : RL} {d : Value} {e : Int} (he : e ≠ 0) (hR : CS Try.prog 12 [d, .int .i64 1] L fun v L' => v = .tuple #[.slice none 0 0, .int .i64 e] ∧ L' = L) :
    CS Try.prog 46 [d] L fun v L' => v = .tuple #[.slice none 0 0, .int .i64 e] ∧ L' = L := by
  refine CS.mk (fn := Try.f46) rfl rfl rfl rfl ?_
  repeat refine LS.seq ?_
  refine LS.region rfl ?_
  refine OS.pure rfl (fun _ => rfl) rfl ?_
  refine OS.pure rfl (fun _ => rfl) rfl ?_
  refine OS.nil ?_
  repeat refine LS.seq ?_
  refine LS.region rfl ?_
  refine OS.pure rfl (fun _ => rfl) rfl ?_
  refine OS.call noGo rfl (fun _ => rfl) ((hR).mono ?_)
  rintro v L' ⟨rfl, rfl⟩
  refine ⟨_, rfl, ?_⟩
  refine OS.pure rfl (fun _ => rfl) rfl ?_
  refine OS.pure rfl (fun _ => rfl) rfl ?_
  refine OS.pure rfl (fun _ => rfl) rfl ?_
  refine OS.pure rfl (fun _ => rfl) rfl ?_
  refine OS.pure rfl (fun _ => rfl) rfl ?_
  refine OS.nil ?_
  repeat refine LS.seq ?_
  refine LS.region rfl ?_
  refine OS.pure rfl (fun _ => rfl) rfl ?_
  refine OS.pure rfl (e_is (fun _ => rfl) (congrArg Value.bool (ne_of he))) rfl ?_
  refine OS.nil ?_
  refine LS.cond rfl (fun hc => ?_) (fun hc => by cases hc)
  repeat refine LS.seq ?_
  refine LS.region rfl ?_
  refine OS.pure rfl (fun _ => rfl) rfl ?_
  refine OS.pure rfl (fun _ => rfl) rfl ?_
  refine OS.pure rfl (fun _ => rfl) rfl ?_
  refine OS.nil ?_
  refine LS.ret ⟨_, fun _ _ => rfl, ?_⟩
  exact ⟨rfl, rfl⟩
theorem Open_refused {L : RL} {d : Value} {e : Int} (he : e ≠ 0) (hR : CS Try.prog 12 [d, .int .i64 1] L fun v L' => v = .tuple #[.slice none 0 0, .int .i64 e] ∧ L' = L) :
    CS Try.prog 28 [d] L fun v L' => v = .tuple #[.pointer none, .int .i64 e] ∧ L' = L := by
  have hq : ieqB e 0 = false := by rw [ieqB_eq]; simpa using he
  refine CS.mk (fn := Try.f28) rfl rfl rfl rfl ?_
  repeat refine LS.seq ?_
  refine LS.region rfl ?_
  refine OS.pure rfl (fun _ => rfl) rfl ?_
  refine OS.pure rfl (fun _ => rfl) rfl ?_
  refine OS.nil ?_
  repeat refine LS.seq ?_
  refine LS.region rfl ?_
  refine OS.pure rfl (fun _ => rfl) rfl ?_
  refine OS.call noGo rfl (fun _ => rfl) ((pending_refused he hR).mono ?_)
  rintro v L' ⟨rfl, rfl⟩
  refine ⟨_, rfl, ?_⟩
  refine OS.pure rfl (fun _ => rfl) rfl ?_
  refine OS.pure rfl (fun _ => rfl) rfl ?_
  refine OS.pure rfl (fun _ => rfl) rfl ?_
  refine OS.pure rfl (fun _ => rfl) rfl ?_
  refine OS.pure rfl (fun _ => rfl) rfl ?_
  refine OS.nil ?_
  repeat refine LS.seq ?_
  refine LS.region rfl ?_
  refine OS.pure rfl (fun _ => rfl) rfl ?_
  refine OS.pure rfl (e_is (fun _ => rfl) (congrArg Value.bool hq)) rfl ?_
  refine OS.pure rfl (fun _ => rfl) rfl ?_
  refine OS.skip rfl rfl ?_
  refine OS.skip rfl rfl ?_
  refine OS.skip rfl rfl ?_
  refine OS.pure rfl (fun _ => rfl) rfl ?_
  refine OS.nil ?_
  refine LS.cond rfl (fun hc => by cases hc) (fun hc => ?_)
  refine LS.skip ?_
  repeat refine LS.seq ?_
  refine LS.region rfl ?_
  refine OS.pure rfl (fun _ => rfl) rfl ?_
  refine OS.pure rfl (e_is (fun _ => rfl) (congrArg Value.bool (ne_of he))) rfl ?_
  refine OS.nil ?_
  refine LS.cond rfl (fun hc => ?_) (fun hc => by cases hc)
  repeat refine LS.seq ?_
  refine LS.region rfl ?_
  refine OS.pure rfl (fun _ => rfl) rfl ?_
  refine OS.pure rfl (fun _ => rfl) rfl ?_
  refine OS.pure rfl (fun _ => rfl) rfl ?_
  refine OS.nil ?_
  refine LS.ret ⟨_, fun _ _ => rfl, ?_⟩
  exact ⟨rfl, rfl⟩

theorem full4_ct {L : RL} (c : UInt8) : CS Try.prog 38 [.int .u8 (c.toNat : Nat)] L fun v L' => ∃ r, v = .slice (some ⟨r, 0, none⟩) 256 256 ∧ L' = (r, .cells 5 (byteCells (List.replicate 256 c))) :: L := by
  refine CS.mk (fn := Try.f38) rfl rfl rfl rfl ?_
  repeat refine LS.seq ?_
  refine LS.region rfl ?_
  refine OS.pure rfl (fun _ => rfl) rfl ?_
  refine OS.nil ?_
  repeat refine LS.seq ?_
  refine LS.region rfl ?_
  refine OS.fresh rfl (e_make (l := 256) (c := 256) rfl rfl rfl makeT_bytes (Nat.le_refl _) (by omega) (by omega)) (fun _ => rfl) (fun r => ?_)
  rw [repL_u8]
  refine OS.pure rfl (fun _ => rfl) rfl ?_
  refine OS.nil ?_
  repeat refine LS.seq ?_
  refine LS.region rfl ?_
  refine OS.pure rfl (fun _ => rfl) rfl ?_
  refine OS.nil ?_
  repeat refine LS.seq ?_
  refine LS.block ?_
  refine LS.loopJ [0, 3, 4] (fun q a L' => ∃ i, q = 256 - i ∧ i ≤ 256 ∧ L' = (r, .cells 5 (byteCells (List.replicate i c ++ List.replicate (256 - i) 0))) :: L ∧
    a = [.int .u8 (c.toNat : Nat), .chan none, .chan none, .slice (some ⟨r, 0, none⟩) 256 256, .int .i64 (i : Nat), .chan none, .chan none, .chan none, .chan none, .chan none, .chan none, .chan none, .chan none, .chan none, .chan none, .chan none, .chan none]) (n := 256) rfl ⟨0, rfl, by omega, rfl, rfl⟩ ?_
  rintro q a L' ⟨i, rfl, hi, rfl, rfl⟩
  repeat refine LS.seq ?_
  refine LS.region rfl ?_
  refine OS.pure rfl (fun _ => rfl) rfl ?_
  refine OS.pure rfl (fun _ => rfl) rfl ?_
  refine OS.pure rfl (fun _ => rfl) rfl ?_
  refine OS.pure rfl (fun _ => rfl) rfl ?_
  refine OS.nil ?_
  repeat refine LS.seq ?_
  refine LS.cond rfl (fun hc => ?_) (fun hc => ?_)
  · have hc : (i : Int) < (256 : Nat) := lt_of hc
    have hin : i < 256 := by omega
    refine LS.skip ?_
    repeat refine LS.seq ?_
    refine LS.block ?_
    repeat refine LS.seq ?_
    refine LS.region rfl ?_
    refine OS.pure rfl (fun _ => rfl) rfl ?_
    refine OS.pure rfl (fun _ => rfl) rfl ?_
    refine OS.pure rfl (fun _ => rfl) rfl ?_
    refine OS.pure rfl (e_index (j := i) (sz := 1) rfl rfl rfl rfl rfl hin) rfl ?_
    refine OS.write rfl (e_store 0 (n := 1) rfl rfl rfl rfl rfl rfl (full_step c hin) rfl) rfl ?_
    refine OS.nil ?_
    repeat refine LS.seq ?_
    refine LS.region rfl ?_
    refine OS.pure rfl (fun _ => rfl) rfl ?_
    refine OS.pure rfl (e_add rfl rfl rfl (in_i64 (by omega) (by omega))) rfl ?_
    refine OS.pure rfl (fun _ => rfl) rfl ?_
    refine OS.nil ?_
    exact ⟨256 - (i + 1), by omega, i + 1, rfl, by omega, rfl, rfl⟩
  · have hc : ((256 : Nat) : Int) ≤ i := nlt_of hc
    have hin : i = 256 := by omega
    subst hin
    refine LS.exit ?_
    repeat refine LS.seq ?_
    refine LS.region rfl ?_
    refine OS.pure rfl (fun _ => rfl) rfl ?_
    refine OS.pure rfl (fun _ => rfl) rfl ?_
    refine OS.nil ?_
    refine LS.ret ⟨_, fun _ _ => rfl, ?_⟩
    exact ⟨r, rfl, rfl⟩

theorem fresh_ct {L : RL} : CS Try.prog 40 [] L fun v L' => ∃ rd rb rj Y D, v = .tuple #[ptr rd, ptr rj] ∧ L' = jn rj rd rb ⟨512, D, 0, false, 0, false⟩ (Y ++ L) ∧ D.length = 512 * 256 ∧ ∀ j, j < 512 → blk D j = zeros := by
  refine CS.mk (fn := Try.f40) rfl rfl rfl rfl ?_
  repeat refine LS.seq ?_
  refine LS.region rfl ?_
  refine OS.pure rfl (fun _ => rfl) rfl ?_
  refine OS.pure rfl (fun _ => rfl) rfl ?_
  refine OS.nil ?_
  repeat refine LS.seq ?_
  refine LS.region rfl ?_
  refine OS.call noGo rfl (fun _ => rfl) ((New_ct 512 (by omega) (by omega)).mono ?_)
  rintro v L' ⟨rd, rb, rfl, rfl⟩
  have hD : (List.replicate (512 * 256) (0 : UInt8)).length = 512 * 256 := List.length_replicate
  have hz : ∀ j, j < 512 → blk (List.replicate (512 * 256) (0 : UInt8)) j = zeros := fun j hj => blk_zeros hj
  generalize List.replicate (512 * 256) (0 : UInt8) = D at hD hz
  refine ⟨_, rfl, ?_⟩
  refine OS.pure rfl (fun _ => rfl) rfl ?_
  refine OS.pure rfl (fun _ => rfl) rfl ?_
  refine OS.pure rfl (fun _ => rfl) rfl ?_
  refine OS.pure rfl (fun _ => rfl) rfl ?_
  refine OS.pure rfl (fun _ => rfl) rfl ?_
  refine OS.nil ?_
  repeat refine LS.seq ?_
  refine LS.region rfl ?_
  refine OS.pure rfl (fun _ => rfl) rfl ?_
  refine OS.pure rfl (fun _ => rfl) rfl ?_
  refine OS.nil ?_
  refine LS.cond rfl (fun hc => by cases hc) (fun hc => ?_)
  refine LS.skip ?_
  repeat refine LS.seq ?_
  refine LS.region rfl ?_
  refine OS.pure rfl (fun _ => rfl) rfl ?_
  refine OS.call noGo rfl (fun _ => rfl) ((Open_idle (s := ⟨512, D, 0, false, 0, false⟩) (ok_of hD (by decide) (by decide) (by decide) (by decide)) rfl (hz 1 (by omega))).mono ?_)
  rintro v L' ⟨rj, Y, rfl, rfl⟩
  refine ⟨_, rfl, ?_⟩
  refine OS.pure rfl (fun _ => rfl) rfl ?_
  refine OS.pure rfl (fun _ => rfl) rfl ?_
  refine OS.pure rfl (fun _ => rfl) rfl ?_
  refine OS.pure rfl (fun _ => rfl) rfl ?_
  refine OS.pure rfl (fun _ => rfl) rfl ?_
  refine OS.nil ?_
  repeat refine LS.seq ?_
  refine LS.region rfl ?_
  refine OS.pure rfl (fun _ => rfl) rfl ?_
  refine OS.pure rfl (fun _ => rfl) rfl ?_
  refine OS.nil ?_
  refine LS.cond rfl (fun hc => by cases hc) (fun hc => ?_)
  refine LS.skip ?_
  repeat refine LS.seq ?_
  refine LS.region rfl ?_
  refine OS.pure rfl (fun _ => rfl) rfl ?_
  refine OS.pure rfl (fun _ => rfl) rfl ?_
  refine OS.pure rfl (fun _ => rfl) rfl ?_
  refine OS.pure rfl (fun _ => rfl) rfl ?_
  refine OS.nil ?_
  refine LS.ret ⟨_, fun _ _ => rfl, ?_⟩
  exact ⟨rd, rb, rj, Y, D, rfl, rfl, hD, hz⟩

theorem holds_ct {F : RL} {rj rd rb : Nat} {s : Dk} (hs : s.ok) (hd : s.dead = false) (i : Nat) (hi : plainP s.n i) (c : UInt8) : CS Try.prog 41 [ptr rj, .int .i64 (i : Nat), .int .u8 (c.toNat : Nat)] (jn rj rd rb s F) fun v L' => v = .bool (decide (blk s.D i = List.replicate 256 c)) ∧ L' = jn rj rd rb s F := by
  have hin : i < s.n := by have := hs.2.1; unfold plainP at hi; omega
  have hbl := blk_len hs.1 hin
  refine CS.mk (fn := Try.f41) rfl rfl rfl rfl ?_
  repeat refine LS.seq ?_
  refine LS.region rfl ?_
  refine OS.pure rfl (fun _ => rfl) rfl ?_
  refine OS.nil ?_
  repeat refine LS.seq ?_
  refine LS.region rfl ?_
  refine OS.pure rfl (fun _ => rfl) rfl ?_
  refine OS.pure rfl (fun _ => rfl) rfl ?_
  refine OS.call noGo rfl (fun _ => rfl) ((jRead_ct hs hd i hi).mono ?_)
  rintro v L' ⟨r, rfl, rfl⟩
  refine ⟨_, rfl, ?_⟩
  refine OS.pure rfl (fun _ => rfl) rfl ?_
  refine OS.pure rfl (fun _ => rfl) rfl ?_
  refine OS.pure rfl (fun _ => rfl) rfl ?_
  refine OS.pure rfl (fun _ => rfl) rfl ?_
  refine OS.pure rfl (fun _ => rfl) rfl ?_
  refine OS.nil ?_
  repeat refine LS.seq ?_
  refine LS.drawn noGo mixed [(0, false), (1, false), (2, false), (3, false), (4, false), (5, false), (6, true), (7, false), (8, false), (9, false), (10, false)] rfl rfl (by kernel_rfl) ?_
  refine ODS.pure rfl rfl (fun _ => rfl) rfl ?_
  refine ODS.pure rfl rfl (fun _ => rfl) rfl ?_
  refine ODS.pure rfl rfl (fun _ => rfl) rfl ?_
  refine ODS.pure rfl rfl (fun _ => rfl) rfl ?_
  refine ODS.read rfl rfl (e_textSV (n := 256) (bs := blk s.D i) (SV.row (e := 85) (r := r) (List.mem_cons_self ..) (by rw [byteCells_len]; exact hbl)) rfl rfl rfl rfl rfl) rfl ?_
  refine ODS.pure rfl rfl (fun _ => rfl) rfl ?_
  refine ODS.call rfl rfl (fun _ => rfl) ((full4_ct c).mono ?_)
  rintro v L' ⟨rf, rfl, rfl⟩
  refine ⟨_, rfl, Keep.cons rfl (e_textSV (n := 256) (bs := blk s.D i) (SV.row (e := 85) (r := r) (List.mem_cons_of_mem _ (List.mem_cons_self ..)) (by rw [byteCells_len]; exact hbl)) rfl rfl rfl rfl rfl) Keep.nil, ?_⟩
  refine ODS.read rfl rfl (e_textSV (n := 256) (bs := List.replicate 256 c) (SV.row (e := 5) (r := rf) (List.mem_cons_self ..) (by rw [byteCells_len, List.length_replicate])) rfl rfl rfl rfl rfl) rfl ?_
  refine ODS.pure rfl rfl (e_is (fun _ => rfl) (congrArg Value.bool (bytes_dec (blk s.D i) (List.replicate 256 c)))) rfl ?_
  refine ODS.pure rfl rfl (fun _ => rfl) rfl ?_
  refine ODS.pure rfl rfl (fun _ => rfl) rfl ?_
  refine ODS.nil ?_
  refine LS.sub (Sub.drop 0 rfl) (LS.sub (Sub.drop 0 rfl) ?_)
  refine LS.ret ⟨_, fun _ _ => rfl, ?_⟩
  exact ⟨rfl, rfl⟩
end Go.Proofs.Ythfgjedcmhllfaa
