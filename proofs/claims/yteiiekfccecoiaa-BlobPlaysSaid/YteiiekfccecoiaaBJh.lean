/- Layer 4: what is opened; the statements' own helpers. -/
import Derived.Test.YteiiekfccecoiaaBJg
namespace Go.Am
theorem bytes_dec (xs ys : List UInt8) : bytesEq xs ys = decide (xs = ys) := by rw [bytesEq_eq]; by_cases h : xs = ys <;> simp [h]
theorem Sub.suffix {X L : RL} : Sub L (X ++ L) := ⟨X, List.perm_append_comm⟩
theorem Sub.trans {A B C : RL} (h : Sub A B) (g : Sub B C) : Sub A C := by
  obtain ⟨M, hM⟩ := h
  obtain ⟨N, hN⟩ := g
  exact ⟨M ++ N, by rw [← List.append_assoc]; exact hN.trans (hM.append_right N)⟩
end Go.Am
namespace Go.Proofs.Yteiiekfccecoiaa
open Go.Am
set_option linter.unusedVariables false
set_option maxRecDepth 20000

theorem told_idle {s : Dk} (h : blk s.D 1 = zeros) : Told s [] := by
  refine ⟨Nat.zero_le _, ?_, fun i p hp => by simp at hp⟩
  rw [h]; rfl
theorem told_pend {s : Dk} {ps : List (Int × List UInt8)} (hs : s.ok) (hg : Good s.n ps) (hl : ps.length ≤ 120) (h1 : blk s.D 1 = headB ps) (h2 : ∀ i p, ps[i]? = some p → blk s.D (2 + i) = p.2) : Told s ps := by
  refine ⟨hl, by rw [h1]; exact headB_count, fun i p hp => ?_⟩
  obtain ⟨a, b⟩ := headB_at hp hl
  have hfit := hg.fit hs.2.1 p (List.mem_of_getElem? hp)
  have := hs.2.2.1
  exact ⟨by rw [h1]; exact a, by rw [h1]; exact b, hfit.1, by omega, (h2 i p hp).symm⟩

theorem Open_idle {F : RL} {rd rb : Nat} {s : Dk} (hs : s.ok) (hd : s.dead = false) (h0 : blk s.D 1 = zeros) :
    CS Try.prog 9 [ptr rd] (dk rd rb s F) fun v L' => ∃ rj Y, v = .tuple #[ptr rj, .int .i64 0] ∧ L' = jn rj rd rb s (Y ++ F) := by
  refine CS.mk (fn := Try.f9) rfl rfl rfl rfl ?_
  repeat refine LS.seq ?_
  refine LS.region rfl ?_
  refine OS.pure rfl (fun _ => rfl) rfl ?_
  refine OS.pure rfl (fun _ => rfl) rfl ?_
  refine OS.nil ?_
  repeat refine LS.seq ?_
  refine LS.region rfl ?_
  refine OS.pure rfl (fun _ => rfl) rfl ?_
  refine OS.call noGo rfl (fun _ => rfl) ((pending_ct hs hd (told_idle h0)).mono ?_)
  rintro v L' ⟨w, Y, rfl, rfl, hw⟩
  have hw : w = .slice none 0 0 ∨ ∃ r, w = .slice (some ⟨r, 0, none⟩) 0 0 := by
    rcases hw with ⟨rfl, _⟩ | ⟨r, gs, rfl, _⟩
    · exact .inl rfl
    · exact .inr ⟨r, rfl⟩
  rcases hw with rfl | ⟨r, rfl⟩
  all_goals
    refine ⟨_, rfl, ?_⟩
    refine OS.pure rfl (fun _ => rfl) rfl ?_
    refine OS.pure rfl (fun _ => rfl) rfl ?_
    refine OS.pure rfl (fun _ => rfl) rfl ?_
    refine OS.pure rfl (fun _ => rfl) rfl ?_
    refine OS.pure rfl (fun _ => rfl) rfl ?_
    refine OS.nil ?_
    repeat refine LS.seq ?_
    refine LS.region rfl ?_
    refine OS.pure rfl (fun _ => rfl) rfl ?_
    refine OS.pure rfl (fun _ => rfl) rfl ?_
    refine OS.pure rfl (fun _ => rfl) rfl ?_
    refine OS.pure rfl (fun _ => rfl) rfl ?_
    refine OS.pure rfl (fun _ => rfl) rfl ?_
    refine OS.pure rfl (fun _ => rfl) rfl ?_
    refine OS.pure rfl (fun _ => rfl) rfl ?_
    refine OS.nil ?_
    refine LS.cond rfl (fun hc => by cases hc) (fun hc => ?_)
    refine LS.skip ?_
    repeat refine LS.seq ?_
    refine LS.region rfl ?_
    refine OS.pure rfl (fun _ => rfl) rfl ?_
    refine OS.pure rfl (fun _ => rfl) rfl ?_
    refine OS.nil ?_
    refine LS.cond rfl (fun hc => by cases hc) (fun hc => ?_)
    refine LS.skip ?_
    repeat refine LS.seq ?_
    refine LS.region rfl ?_
    refine OS.pure rfl (fun _ => rfl) rfl ?_
    refine OS.pure rfl (fun _ => rfl) rfl ?_
    refine OS.fresh rfl (e_new (fun _ => rfl) rfl) (fun _ => rfl) (fun rj => ?_)
    refine OS.pure rfl (fun _ => rfl) rfl ?_
    refine OS.pure rfl (fun _ => rfl) rfl ?_
    refine OS.nil ?_
    refine LS.ret ⟨_, fun _ _ => rfl, ?_⟩
    exact ⟨rj, Y, rfl, rfl⟩

theorem Open_pend {F : RL} {rd rb : Nat} {s : Dk} {ps : List (Int × List UInt8)} (hs : s.ok) (hw : s.wr ≤ 800000) (hd : s.dead = false) (hg : Good s.n ps) (hl : ps.length ≤ 120) (h0 : ps ≠ []) (h1 : blk s.D 1 = headB ps) (h2 : ∀ i p, ps[i]? = some p → blk s.D (2 + i) = p.2) :
    CS Try.prog 9 [ptr rd] (dk rd rb s F) fun v L' => ∃ Y, ((runW s (finW ps)).1 = 0 ∧ ∃ rj, v = .tuple #[ptr rj, .int .i64 0] ∧ L' = jn rj rd rb (runW s (finW ps)).2 (Y ++ F)) ∨
      ((runW s (finW ps)).1 ≠ 0 ∧ v = .tuple #[.pointer none, .int .i64 (runW s (finW ps)).1] ∧ L' = dk rd rb (runW s (finW ps)).2 (Y ++ F)) := by
  have hpos : 0 < ps.length := List.length_pos_iff.2 h0
  refine CS.mk (fn := Try.f9) rfl rfl rfl rfl ?_
  repeat refine LS.seq ?_
  refine LS.region rfl ?_
  refine OS.pure rfl (fun _ => rfl) rfl ?_
  refine OS.pure rfl (fun _ => rfl) rfl ?_
  refine OS.nil ?_
  repeat refine LS.seq ?_
  refine LS.region rfl ?_
  refine OS.pure rfl (fun _ => rfl) rfl ?_
  refine OS.call noGo rfl (fun _ => rfl) ((pending_ct hs hd (told_pend hs hg hl h1 h2)).mono ?_)
  rintro v L' ⟨w, Y, rfl, rfl, hw⟩
  rcases hw with ⟨rfl, hno⟩ | ⟨r, gs, rfl, hbd, hsv, hrd, _, _⟩
  · exact absurd ⟨hg, h1⟩ hno
  have hq : (!ileB ((ps.length : Nat) : Int) 0) = true := by rw [ileB_eq]; simp; omega
  have hgs : Good s.n (bd gs) := by rw [hbd]; exact hg
  refine ⟨_, rfl, ?_⟩
  refine OS.pure rfl (fun _ => rfl) rfl ?_
  refine OS.pure rfl (fun _ => rfl) rfl ?_
  refine OS.pure rfl (fun _ => rfl) rfl ?_
  refine OS.pure rfl (fun _ => rfl) rfl ?_
  refine OS.pure rfl (fun _ => rfl) rfl ?_
  refine OS.nil ?_
  repeat refine LS.seq ?_
  refine LS.region rfl ?_
  refine OS.pure rfl (fun _ => rfl) rfl ?_
  refine OS.pure rfl (fun _ => rfl) rfl ?_
  refine OS.pure rfl (fun _ => rfl) rfl ?_
  refine OS.pure rfl (fun _ => rfl) rfl ?_
  refine OS.pure rfl (fun _ => rfl) rfl ?_
  refine OS.pure rfl (e_is (fun _ => rfl) (congrArg Value.bool hq)) rfl ?_
  refine OS.pure rfl (fun _ => rfl) rfl ?_
  refine OS.nil ?_
  refine LS.cond rfl (fun hc => ?_) (fun hc => by cases hc)
  have hfin := finish_ct (rd := rd) (rb := rb) (F := Y ++ F) (s := s) (gs := gs) (hsv.mono (fun p hp => List.mem_append_left _ hp)) (hrd.mono (fun p hp => List.mem_append_left _ hp)) (good_256 hgs) hl hs (by omega)
  rw [hbd] at hfin
  repeat refine LS.seq ?_
  refine LS.region rfl ?_
  refine OS.pure rfl (fun _ => rfl) rfl ?_
  refine OS.pure rfl (fun _ => rfl) rfl ?_
  refine OS.call noGo rfl (fun _ => rfl) ((hfin).mono ?_)
  rintro v L' ⟨rfl, rfl⟩
  refine ⟨_, rfl, ?_⟩
  refine OS.pure rfl (fun _ => rfl) rfl ?_
  refine OS.nil ?_
  by_cases he : (runW s (finW ps)).1 = 0
  · have hq2 : (!ieqB (runW s (finW ps)).1 0) = false := by rw [he]; rfl
    repeat refine LS.seq ?_
    refine LS.region rfl ?_
    refine OS.pure rfl (fun _ => rfl) rfl ?_
    refine OS.pure rfl (e_is (fun _ => rfl) (congrArg Value.bool hq2)) rfl ?_
    refine OS.nil ?_
    refine LS.cond rfl (fun hc => by cases hc) (fun hc => ?_)
    refine LS.skip ?_
    repeat refine LS.seq ?_
    refine LS.region rfl ?_
    refine OS.pure rfl (fun _ => rfl) rfl ?_
    refine OS.pure rfl (fun _ => rfl) rfl ?_
    refine OS.fresh rfl (e_new (fun _ => rfl) rfl) (fun _ => rfl) (fun rj => ?_)
    refine OS.pure rfl (fun _ => rfl) rfl ?_
    refine OS.pure rfl (fun _ => rfl) rfl ?_
    refine OS.nil ?_
    refine LS.ret ⟨_, fun _ _ => rfl, ?_⟩
    exact ⟨Y, .inl ⟨he, rj, rfl, rfl⟩⟩
  · repeat refine LS.seq ?_
    refine LS.region rfl ?_
    refine OS.pure rfl (fun _ => rfl) rfl ?_
    refine OS.pure rfl (e_is (fun _ => rfl) (congrArg Value.bool (ne_of he))) rfl ?_
    refine OS.nil ?_
    refine LS.cond rfl (fun hc => ?_) (fun hc => by cases hc)
    repeat refine LS.seq ?_
    refine LS.region rfl ?_
    refine OS.pure rfl (fun _ => rfl) rfl ?_
    refine OS.pure rfl (fun _ => rfl) rfl ?_
    refine OS.pure rfl (fun _ => rfl) rfl ?_
    refine OS.nil ?_
    refine LS.ret ⟨_, fun _ _ => rfl, ?_⟩
    exact ⟨Y, .inr ⟨he, rfl, rfl⟩⟩

theorem pending_refused {L : RL} {d : Value} {e : Int} (he : e ≠ 0) (hR : CS Try.prog 56 [d, .int .i64 1] L fun v L' => v = .tuple #[.slice none 0 0, .int .i64 e] ∧ L' = L) :
    CS Try.prog 34 [d] L fun v L' => v = .tuple #[.slice none 0 0, .int .i64 e] ∧ L' = L := by
  refine CS.mk (fn := Try.f34) rfl rfl rfl rfl ?_
  repeat refine LS.seq ?_
  refine LS.region rfl ?_
  refine OS.pure rfl (fun _ => rfl) rfl ?_
  refine OS.pure rfl (fun _ => rfl) rfl ?_
  refine OS.nil ?_
  repeat refine LS.seq ?_
  refine LS.region rfl ?_
  refine OS.pure rfl (fun _ => rfl) rfl ?_
  refine OS.call noGo rfl (fun _ => rfl) ((hR).mono ?_)
  rintro v L' ⟨rfl, rfl⟩
  refine ⟨_, rfl, ?_⟩
  refine OS.pure rfl (fun _ => rfl) rfl ?_
  refine OS.pure rfl (fun _ => rfl) rfl ?_
  refine OS.pure rfl (fun _ => rfl) rfl ?_
  refine OS.pure rfl (fun _ => rfl) rfl ?_
  refine OS.pure rfl (fun _ => rfl) rfl ?_
  refine OS.nil ?_
  repeat refine LS.seq ?_
  refine LS.region rfl ?_
  refine OS.pure rfl (fun _ => rfl) rfl ?_
  refine OS.pure rfl (e_is (fun _ => rfl) (congrArg Value.bool (ne_of he))) rfl ?_
  refine OS.nil ?_
  refine LS.cond rfl (fun hc => ?_) (fun hc => by cases hc)
  repeat refine LS.seq ?_
  refine LS.region rfl ?_
  refine OS.pure rfl (fun _ => rfl) rfl ?_
  refine OS.pure rfl (fun _ => rfl) rfl ?_
  refine OS.pure rfl (fun _ => rfl) rfl ?_
  refine OS.nil ?_
  refine LS.ret ⟨_, fun _ _ => rfl, ?_⟩
  exact ⟨rfl, rfl⟩
theorem Open_refused {L : RL} {d : Value} {e : Int} (he : e ≠ 0) (hR : CS Try.prog 56 [d, .int .i64 1] L fun v L' => v = .tuple #[.slice none 0 0, .int .i64 e] ∧ L' = L) :
    CS Try.prog 9 [d] L fun v L' => v = .tuple #[.pointer none, .int .i64 e] ∧ L' = L := by
  have hq : ieqB e 0 = false := by rw [ieqB_eq]; simpa using he
  refine CS.mk (fn := Try.f9) rfl rfl rfl rfl ?_
  repeat refine LS.seq ?_
  refine LS.region rfl ?_
  refine OS.pure rfl (fun _ => rfl) rfl ?_
  refine OS.pure rfl (fun _ => rfl) rfl ?_
  refine OS.nil ?_
  repeat refine LS.seq ?_
  refine LS.region rfl ?_
  refine OS.pure rfl (fun _ => rfl) rfl ?_
  refine OS.call noGo rfl (fun _ => rfl) ((pending_refused he hR).mono ?_)
  rintro v L' ⟨rfl, rfl⟩
  refine ⟨_, rfl, ?_⟩
  refine OS.pure rfl (fun _ => rfl) rfl ?_
  refine OS.pure rfl (fun _ => rfl) rfl ?_
  refine OS.pure rfl (fun _ => rfl) rfl ?_
  refine OS.pure rfl (fun _ => rfl) rfl ?_
  refine OS.pure rfl (fun _ => rfl) rfl ?_
  refine OS.nil ?_
  repeat refine LS.seq ?_
  refine LS.region rfl ?_
  refine OS.pure rfl (fun _ => rfl) rfl ?_
  refine OS.pure rfl (e_is (fun _ => rfl) (congrArg Value.bool hq)) rfl ?_
  refine OS.pure rfl (fun _ => rfl) rfl ?_
  refine OS.skip rfl rfl ?_
  refine OS.skip rfl rfl ?_
  refine OS.skip rfl rfl ?_
  refine OS.pure rfl (fun _ => rfl) rfl ?_
  refine OS.nil ?_
  refine LS.cond rfl (fun hc => by cases hc) (fun hc => ?_)
  refine LS.skip ?_
  repeat refine LS.seq ?_
  refine LS.region rfl ?_
  refine OS.pure rfl (fun _ => rfl) rfl ?_
  refine OS.pure rfl (e_is (fun _ => rfl) (congrArg Value.bool (ne_of he))) rfl ?_
  refine OS.nil ?_
  refine LS.cond rfl (fun hc => ?_) (fun hc => by cases hc)
  repeat refine LS.seq ?_
  refine LS.region rfl ?_
  refine OS.pure rfl (fun _ => rfl) rfl ?_
  refine OS.pure rfl (fun _ => rfl) rfl ?_
  refine OS.pure rfl (fun _ => rfl) rfl ?_
  refine OS.nil ?_
  refine LS.ret ⟨_, fun _ _ => rfl, ?_⟩
  exact ⟨rfl, rfl⟩

end Go.Proofs.Yteiiekfccecoiaa
