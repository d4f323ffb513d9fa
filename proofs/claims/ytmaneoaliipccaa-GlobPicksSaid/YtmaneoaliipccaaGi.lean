/- Layer 10: GlobMatches, GlobSelf. -/
import Derived.Test.YtmaneoaliipccaaGh
namespace Go.Proofs.Ytmaneoaliipccaa
open Go.Am
set_option linter.unusedVariables false
set_option maxRecDepth 20000
set_option maxHeartbeats 4000000
attribute [local irreducible] OS LSr ODS CS

theorem matchesLaw_ct {L : RL} (p s : List UInt8) : CS Try.prog 3 [str p, str s] L fun v _ => v = .bool true := by
  have aw : ∀ L : RL, CS Try.prog 8 [] L fun v _ => v = .bool true := fun L => awake_ct.mono fun v L' h => h.1
  refine CS.mk (fn := Try.f3) rfl rfl rfl rfl ?_
  by_cases h1 : 2000 < p.length
  · have hb : (!ileB ((p.length : Nat) : Int) 2000) = true := by rw [ileB_eq]; simp; omega
    refine yG ?_
    refine OS.call noGo rfl (fun _ => rfl) ((aw _).mono ?_)
    rintro v' L2 rfl
    refine yG ?_
    rfl
  have hb : (!ileB ((p.length : Nat) : Int) 2000) = false := by rw [ileB_eq]; simp; omega
  by_cases h2 : 2000 < s.length
  · have hb2 : (!ileB ((s.length : Nat) : Int) 2000) = true := by rw [ileB_eq]; simp; omega
    refine yG ?_
    refine OS.call noGo rfl (fun _ => rfl) ((aw _).mono ?_)
    rintro v' L2 rfl
    refine yG ?_
    rfl
  have hb2 : (!ileB ((s.length : Nat) : Int) 2000) = false := by rw [ileB_eq]; simp; omega
  have hb3 : ieqB (chk p) (chk p) = true := by rw [ieqB_eq]; simp
  refine yG ?_
  refine OS.call noGo rfl (fun _ => rfl) ((Check_ct p).mono ?_)
  rintro v' L2 ⟨rfl, hL⟩
  rw [hL]
  clear hL
  refine yG ?_
  refine OS.call noGo rfl (fun _ => rfl) ((refCheck_ct p).mono ?_)
  rintro v' L2 ⟨rfl, hL⟩
  rw [hL]
  clear hL
  refine yG ?_
  refine OS.call noGo rfl (fun _ => rfl) ((Match_ct p s (by omega)).mono ?_)
  rintro v' L2 ⟨rfl, hL⟩
  rw [hL]
  clear hL
  refine yG ?_
  refine OS.call noGo rfl (fun _ => rfl) ((refMatch_ct p s (by omega)).mono ?_)
  rintro v' L2 ⟨rfl, hL⟩
  rw [hL]
  clear hL
  rcases tf (mt p s) with hm | hm <;> rw [hm]
  · refine yG ?_
    refine OS.call noGo rfl (fun _ => rfl) ((aw _).mono ?_)
    rintro v' L2 rfl
    refine yG ?_
    rfl
  · refine yG ?_
    refine OS.call noGo rfl (fun _ => rfl) ((aw _).mono ?_)
    rintro v' L2 rfl
    refine yG ?_
    rfl
theorem slash_step {s : List UInt8} {k : Nat} {c : UInt8} (h : s[k]? = some c) : (s.take (k + 1)).contains 47 = ((s.take k).contains 47 || c == 47) := by
  rw [take_snoc h, Bool.eq_iff_iff, List.contains_iff_mem, List.mem_append, Bool.or_eq_true, List.contains_iff_mem, beq_iff_eq, List.mem_singleton]
  exact or_congr Iff.rfl ⟨fun h => h.symm, fun h => h.symm⟩
theorem two_all (s : List UInt8) : mt [42, 42] s = true := by
  unfold mt
  rw [show chk [42, 42] = 0 by decide, ps_two, ps_nil]
  simp only [decide_true, Bool.true_and]
  show spanM _ _ _ = true
  rw [spanM_iff]
  exact ⟨s, [], by simp, by simp, rfl⟩
theorem one_all (s : List UInt8) : mt [42] s = !s.contains 47 := by
  unfold mt
  rw [show chk [42] = 0 by decide, ps_star (by simp), ps_nil]
  simp only [decide_true, Bool.true_and]
  show spanM _ _ _ = _
  rw [Bool.eq_iff_iff, spanM_iff]
  constructor
  · rintro ⟨a, b, rfl, ha, hb⟩
    have : b = [] := by simpa [ms] using hb
    subst this
    simp [noSl] at ha ⊢
    intro h; exact ha 47 h rfl
  · intro h
    refine ⟨s, [], by simp, ?_, rfl⟩
    simp [noSl] at h ⊢
    intro x hx e; subst e; exact h hx
/-- Without a star and a question mark. -/
def calm (p : List UInt8) : Bool := p.all fun c => c != 42 && c != 63
theorem ms_calm : ∀ {p s : List UInt8}, calm p = true → ms (ps p) s = decide (p = s)
  | [], s, _ => by rw [ps_nil]; cases s <;> simp [ms]
  | c :: p, s, h => by
    have hc : (c ≠ 42 ∧ c ≠ 63) ∧ calm p = true := by simpa [calm] using h
    rw [ps_else _ hc.1.1 hc.1.2]
    cases s with
    | nil => simp [ms]
    | cons d s =>
      show ((d == c) && ms (ps p) s) = _
      rw [ms_calm hc.2, Bool.eq_iff_iff, Bool.and_eq_true, beq_iff_eq, decide_eq_true_iff, decide_eq_true_iff, List.cons.injEq]
      exact and_congr ⟨fun h => h.symm, fun h => h.symm⟩ Iff.rfl
theorem selfLaw_ct {L : RL} (p s : List UInt8) : CS Try.prog 6 [str p, str s] L fun v _ => v = .bool true := by
  have aw : ∀ L : RL, CS Try.prog 8 [] L fun v L' => v = .bool true ∧ L' = L := fun L => awake_ct
  refine CS.mk (fn := Try.f6) rfl rfl rfl rfl ?_
  by_cases h1 : 300 < p.length
  · have hb : (!ileB ((p.length : Nat) : Int) 300) = true := by rw [ileB_eq]; simp; omega
    refine yG ?_
    refine OS.call noGo rfl (fun _ => rfl) ((aw _).mono ?_)
    rintro v' L2 ⟨rfl, hL⟩
    refine yG ?_
    rfl
  have hb : (!ileB ((p.length : Nat) : Int) 300) = false := by rw [ileB_eq]; simp; omega
  by_cases h2 : 2000 < s.length
  · have hb2 : (!ileB ((s.length : Nat) : Int) 2000) = true := by rw [ileB_eq]; simp; omega
    refine yG ?_
    refine OS.call noGo rfl (fun _ => rfl) ((aw _).mono ?_)
    rintro v' L2 ⟨rfl, hL⟩
    refine yG ?_
    rfl
  have hb2 : (!ileB ((s.length : Nat) : Int) 2000) = false := by rw [ileB_eq]; simp; omega
  refine yG ?_
  refine OS.call noGo rfl (fun _ => rfl) ((aw _).mono ?_)
  rintro v' L2 ⟨rfl, hL⟩
  rw [hL]
  clear hL
  refine yG ?_
  refine LS.loopJ [0, 1, 5, 6] (fun q a L' => ∃ k : Nat, q = s.length - k ∧ k ≤ s.length ∧ L' = L ∧ a = [str p, str s, .chan none, .chan none, .chan none, .bool ((s.take k).contains 47), .int .i64 (k : Nat), .chan none, .chan none, .chan none, .chan none, .chan none, .chan none, .chan none, .chan none, .chan none, .chan none, .chan none, .chan none, .chan none, .chan none, .chan none, .chan none, .chan none, .chan none, .chan none, .chan none, .chan none, .chan none, .chan none, .chan none, .chan none, .chan none, .chan none, .chan none, .chan none, .chan none, .chan none, .chan none, .chan none, .chan none, .chan none, .chan none, .chan none, .chan none, .chan none, .chan none, .chan none, .chan none, .chan none, .chan none, .chan none, .chan none, .chan none, .chan none, .chan none, .chan none, .chan none, .chan none, .chan none, .chan none, .chan none, .chan none, .chan none, .chan none, .chan none, .chan none, .chan none, .chan none, .chan none, .chan none]) (n := s.length) rfl ⟨0, rfl, by omega, rfl, rfl⟩ ?_
  rintro q a L' ⟨k, rfl, hk, hL, rfl⟩
  rw [hL]
  clear hL
  refine yG ?_
  repeat refine LS.seq ?_
  refine LS.cond rfl (fun hc => ?_) (fun hc => ?_)
  · have hc := lt_of hc
    obtain ⟨c, hcb⟩ := ext_list (l := s) (k := k) (by omega)
    have hst := slash_step hcb
    have hc47 : ieqB ((c.toNat : Nat) : Int) 47 = (c == 47) := cmp_u8 (k := 47) c 47 rfl
    refine LS.skip ?_
    rcases tf ((s.take k).contains 47) with h3 | h3
    · rw [h3]
      refine yG ?_
      exact ⟨s.length - (k + 1), by omega, k + 1, rfl, by omega, rfl, by rw [hst, h3]; rfl⟩
    · rw [h3]
      refine yG ?_
      exact ⟨s.length - (k + 1), by omega, k + 1, rfl, by omega, rfl, by rw [hst, h3]; rfl⟩
  have hc := nlt_of hc
  obtain rfl : k = s.length := by omega
  rw [List.take_length]
  refine LS.exit ?_
  refine yG ?_
  refine OS.call noGo rfl (fun _ => rfl) ((Match_ct [42, 42] s (by omega)).mono ?_)
  rintro v' L2 ⟨rfl, hL⟩
  rw [hL, two_all]
  clear hL
  refine yG ?_
  refine OS.call noGo rfl (fun _ => rfl) ((Match_ct [42] s (by omega)).mono ?_)
  rintro v' L2 ⟨rfl, hL⟩
  rw [hL, one_all]
  clear hL
  rcases tf (s.contains 47) with h3 | h3
  all_goals
    rw [h3]
    refine yG ?_
    refine LS.loopJ [0, 1, 7] (fun q a L' => ∃ k : Nat, q = p.length - k ∧ k ≤ p.length ∧ calm (p.take k) = true ∧ L' = L ∧ a = [str p, str s, .chan none, .chan none, .chan none, .chan none, .chan none, .int .i64 (k : Nat), .chan none, .chan none, .chan none, .chan none, .chan none, .chan none, .chan none, .chan none, .chan none, .chan none, .chan none, .chan none, .chan none, .chan none, .chan none, .chan none, .chan none, .chan none, .chan none, .chan none, .chan none, .chan none, .chan none, .chan none, .chan none, .chan none, .chan none, .chan none, .chan none, .chan none, .chan none, .chan none, .chan none, .chan none, .chan none, .chan none, .chan none, .chan none, .chan none, .chan none, .chan none, .chan none, .chan none, .chan none, .chan none, .chan none, .chan none, .chan none, .chan none, .chan none, .chan none, .chan none, .chan none, .chan none, .chan none, .chan none, .chan none, .chan none, .chan none, .chan none, .chan none, .chan none, .chan none]) (n := p.length) rfl ⟨0, rfl, by omega, by simp [calm], rfl, rfl⟩ ?_
    rintro q a L' ⟨k, rfl, hk, hcl, hL, rfl⟩
    rw [hL]
    clear hL
    refine yG ?_
    repeat refine LS.seq ?_
    refine LS.cond rfl (fun hc => ?_) (fun hc => ?_)
    · have hc := lt_of hc
      obtain ⟨c, hcb⟩ := ext_list (l := p) (k := k) (by omega)
      have hst : calm (p.take (k + 1)) = (calm (p.take k) && (c != 42 && c != 63)) := by
        unfold calm; rw [take_snoc hcb, List.all_append]; simp
      have hc42 : ieqB ((c.toNat : Nat) : Int) 42 = (c == 42) := cmp_u8 (k := 42) c 42 rfl
      have hc63 : ieqB ((c.toNat : Nat) : Int) 63 = (c == 63) := cmp_u8 (k := 63) c 63 rfl
      refine LS.skip ?_
      rcases tf (ieqB ((c.toNat : Nat) : Int) 42) with h4 | h4
      · refine yG ?_
        rfl
      rcases tf (ieqB ((c.toNat : Nat) : Int) 63) with h5 | h5
      · clear hc63
        refine yG ?_
        rfl
      rw [hc42] at h4
      rw [hc63] at h5
      clear hc42 hc63
      have h4' : ieqB ((c.toNat : Nat) : Int) 42 = false := by rw [cmp_u8 (k := 42) c 42 rfl]; exact h4
      have h5' : ieqB ((c.toNat : Nat) : Int) 63 = false := by rw [cmp_u8 (k := 63) c 63 rfl]; exact h5
      refine yG ?_
      exact ⟨p.length - (k + 1), by omega, k + 1, rfl, by omega, by rw [hst, hcl]; unfold bne; rw [h4, h5]; rfl, rfl, rfl⟩
    have hc := nlt_of hc
    obtain rfl : k = p.length := by omega
    rw [List.take_length] at hcl
    refine LS.exit ?_
    refine yG ?_
    refine OS.call noGo rfl (fun _ => rfl) ((Match_ct p s (by omega)).mono ?_)
    rintro v' L2 ⟨rfl, hL⟩
    rw [hL]
    clear hL
    have hmt : mt p s = (decide (chk p = 0) && decide (p = s)) := by unfold mt; rw [ms_calm hcl]
    rcases tf (bytesEq p s) with h6 | h6
    · have hps : p = s := by rw [beq_bytes] at h6; simpa using h6
      rw [hmt, decide_eq_true hps, Bool.and_true]
      refine yG ?_
      refine OS.call noGo rfl (fun _ => rfl) ((Check_ct p).mono ?_)
      rintro v' L2 ⟨rfl, hL⟩
      rw [hL]
      clear hL
      by_cases h7 : chk p = 0
      · rw [h7]
        refine yG ?_
        rfl
      · have h8 : ieqB (chk p) 0 = false := by rw [ieqB_eq]; simpa using h7
        rw [decide_eq_false h7]
        refine yG ?_
        rfl
    · have hps : ¬ p = s := by rw [beq_bytes] at h6; simpa using h6
      rw [hmt, decide_eq_false hps, Bool.and_false]
      refine yG ?_
      rfl
end Go.Proofs.Ytmaneoaliipccaa
