/- Layer 5: FreemapCounts. -/
import Derived.Test.YtlifdkihjnnonaaFh
namespace Go.Am
theorem ne_same (n : Int) : (!ieqB n n) = false := by rw [ieqB_eq]; simp
theorem ne_texts (bs : List UInt8) : (!bytesEq bs bs) = false := by rw [bytesEq_eq]; simp
theorem gv_back {e : TypeId} {sz n : Nat} {F L : RL} {v : Value} {cs : List Value} {p q : Nat × ARow} (g : GV e sz (p :: q :: F) v n cs L) : ∃ Y, Sub (p :: q :: (Y ++ F)) L ∧ SV sz Y v n cs := by
  rcases g with ⟨rfl, rfl, rfl, rfl⟩ | ⟨r, rfl, hl, rfl⟩
  · exact ⟨[], ⟨[], by simp⟩, .inl ⟨rfl, rfl, rfl⟩⟩
  · exact ⟨[(r, .cells e cs)], Sub.pulls [2, 2] rfl, SV.row (e := e) (by simp) hl⟩
end Go.Am
namespace Go.Proofs.Ytlifdkihjnnonaa
open Go.Am
set_option linter.unusedVariables false
set_option maxRecDepth 20000

theorem lst_mem {T : List Bool} {k : Nat} (h : k ∈ lst' T) : k < T.length ∧ tkn T k = true := by
  unfold lst' at h
  rw [List.mem_filter] at h
  exact ⟨by simpa using h.1, h.2⟩
theorem lst_rises (T : List Bool) : (lst' T).Pairwise (· < ·) := by
  unfold lst'
  exact List.Pairwise.filter _ List.pairwise_lt_range
theorem ints_get {l : List Nat} {i : Nat} (h : i < l.length) : (ints l)[i]? = some (.int .i64 (l[i] : Nat)) := by simp [ints, h]
theorem e_bools {P : Program} {a : Slots} {o : Oper} {b b' : Bool} (e : ∀ h, opB P a o h = some (.val (.bool b) h)) (hb : b = b') : ∀ h, opB P a o h = some (.val (.bool b') h) := hb ▸ e

set_option maxHeartbeats 1000000 in
theorem counts_ct {L : RL} {l1 l2 : Value} {m1 m2 : Nat} {zs1 zs2 : List Int} (n : Int) (hl1 : SV 1 L l1 m1 (zs1.map fun z => .int .i64 z)) (hl2 : SV 1 L l2 m2 (zs2.map fun z => .int .i64 z)) (hm1 : m1 ≤ 1000000000000000000) (hm2 : m2 ≤ 1000000000000000000) :
    CS Try.prog 6 [.int .i64 n, l1, l2] L fun v' _ => v' = .bool true := by
  have hlen1 : zs1.length = m1 := by have := hl1.len; simpa using this
  have hlen2 : zs2.length = m2 := by have := hl2.len; simpa using this
  refine CS.mk (fn := Try.f6) rfl rfl rfl rfl ?_
  repeat refine LS.seq ?_
  refine LS.region rfl ?_
  refine OS.pure rfl (fun _ => rfl) rfl ?_
  refine OS.nil ?_
  by_cases hm5 : 500 < m1 + m2
  · have hb : (!ileB ((m1 : Int) + (m2 : Nat)) 500) = true := by rw [ileB_eq]; simp; omega
    repeat refine LS.seq ?_
    refine LS.region rfl ?_
    refine OS.call noGo rfl (fun _ => rfl) ((works_ct).mono ?_)
    rintro v L' ⟨rfl, hLL⟩
    have hLL := hLL.symm
    subst hLL
    refine ⟨_, rfl, ?_⟩
    refine OS.pure rfl (fun _ => rfl) rfl ?_
    refine OS.pure rfl (fun _ => rfl) rfl ?_
    refine OS.pure rfl (fun _ => rfl) rfl ?_
    refine OS.pure rfl (e_len hl1 rfl rfl rfl rfl rfl) rfl ?_
    refine OS.pure rfl (fun _ => rfl) rfl ?_
    refine OS.pure rfl (e_len hl2 rfl rfl rfl rfl rfl) rfl ?_
    refine OS.pure rfl (e_add rfl rfl rfl (in_i64 (by omega) (by omega))) rfl ?_
    refine OS.pure rfl (e_is (fun _ => rfl) (congrArg Value.bool hb)) rfl ?_
    refine OS.pure rfl (fun _ => rfl) rfl ?_
    refine OS.nil ?_
    refine LS.cond rfl (fun hc => ?_) (fun hc => by cases hc)
    repeat refine LS.seq ?_
    refine LS.region rfl ?_
    refine OS.call noGo rfl (fun _ => rfl) ((works_ct).mono ?_)
    rintro v L' ⟨rfl, hLL⟩
    have hLL := hLL.symm
    subst hLL
    refine ⟨_, rfl, ?_⟩
    refine OS.pure rfl (fun _ => rfl) rfl ?_
    refine OS.nil ?_
    refine LS.ret ⟨_, fun _ _ => rfl, ?_⟩
    rfl
  have hb : (!ileB ((m1 : Int) + (m2 : Nat)) 500) = false := by rw [ileB_eq]; simp; omega
  repeat refine LS.seq ?_
  refine LS.region rfl ?_
  refine OS.call noGo rfl (fun _ => rfl) ((works_ct).mono ?_)
  rintro v L' ⟨rfl, hLL⟩
  have hLL := hLL.symm
  subst hLL
  refine ⟨_, rfl, ?_⟩
  refine OS.pure rfl (fun _ => rfl) rfl ?_
  refine OS.pure rfl (fun _ => rfl) rfl ?_
  refine OS.pure rfl (fun _ => rfl) rfl ?_
  refine OS.pure rfl (e_len hl1 rfl rfl rfl rfl rfl) rfl ?_
  refine OS.pure rfl (fun _ => rfl) rfl ?_
  refine OS.pure rfl (e_len hl2 rfl rfl rfl rfl rfl) rfl ?_
  refine OS.pure rfl (e_add rfl rfl rfl (in_i64 (by omega) (by omega))) rfl ?_
  refine OS.pure rfl (e_is (fun _ => rfl) (congrArg Value.bool hb)) rfl ?_
  refine OS.pure rfl (fun _ => rfl) rfl ?_
  refine OS.nil ?_
  refine LS.cond rfl (fun hc => by cases hc) (fun hc => ?_)
  refine LS.skip ?_
  have hun := uns_lt n
  repeat refine LS.seq ?_
  refine LS.region rfl ?_
  refine OS.pure rfl (fun _ => rfl) rfl ?_
  refine OS.pure rfl (e_uns rfl rfl rfl rfl) rfl ?_
  refine OS.pure rfl (e_rem (n := 5001) rfl rfl rfl (by decide)) rfl ?_
  obtain ⟨N, hN⟩ : ∃ N, uns n % 5001 = N := ⟨_, rfl⟩
  rw [hN]
  have hN2 : N ≤ 5000 := by omega
  refine OS.pure rfl (e_conv rfl rfl rfl rfl (in_i64 (by omega) (by omega))) rfl ?_
  refine OS.pure rfl (fun _ => rfl) rfl ?_
  refine OS.nil ?_
  repeat refine LS.seq ?_
  refine LS.region rfl ?_
  refine OS.pure rfl (fun _ => rfl) rfl ?_
  refine OS.call noGo rfl (fun _ => rfl) ((New_ct N (by omega)).mono ?_)
  rintro v L' ⟨rm, rb, rfl, rfl⟩
  refine ⟨_, rfl, ?_⟩
  refine OS.pure rfl (fun _ => rfl) rfl ?_
  refine OS.pure rfl (fun _ => rfl) rfl ?_
  refine OS.pure rfl (fun _ => rfl) rfl ?_
  refine OS.pure rfl (fun _ => rfl) rfl ?_
  refine OS.pure rfl (fun _ => rfl) rfl ?_
  refine OS.nil ?_
  repeat refine LS.seq ?_
  refine LS.region rfl ?_
  refine OS.pure rfl (fun _ => rfl) rfl ?_
  refine OS.pure rfl (fun _ => rfl) rfl ?_
  refine OS.nil ?_
  refine LS.cond rfl (fun hc => by cases hc) (fun hc => ?_)
  refine LS.skip ?_
  repeat refine LS.seq ?_
  refine LS.region rfl ?_
  refine OS.pure rfl (fun _ => rfl) rfl ?_
  refine OS.nil ?_
  repeat refine LS.seq ?_
  refine LS.region rfl ?_
  refine OS.pure rfl (fun _ => rfl) rfl ?_
  refine OS.nil ?_
  repeat refine LS.seq ?_
  refine LS.mid [0, 2, 7, 9] (fun a L' => ∃ (T : List Bool) (t : Int), T.length = N ∧ t + (frees T : Nat) = N ∧ L' = fm rm rb T L ∧ a = [.int .i64 (N : Nat), .chan none, l2, .chan none, .chan none, .chan none, .chan none, ptr rm, .chan none, .int .i64 t, .chan none, .chan none, .chan none, .chan none, .chan none, .chan none, .chan none, .chan none, .chan none, .chan none, .chan none, .chan none, .chan none, .chan none, .chan none, .chan none, .chan none, .chan none, .chan none, .chan none, .chan none, .chan none, .chan none, .chan none, .chan none, .chan none, .chan none, .chan none, .chan none, .chan none, .chan none, .chan none, .chan none, .chan none, .chan none, .chan none, .chan none, .chan none, .chan none, .chan none, .chan none, .chan none, .chan none, .chan none, .chan none, .chan none, .chan none, .chan none, .chan none, .chan none, .chan none, .chan none, .chan none, .chan none, .chan none, .chan none, .chan none, .chan none, .chan none, .chan none, .chan none, .chan none, .chan none, .chan none, .chan none, .chan none, .chan none, .chan none, .chan none, .chan none, .chan none, .chan none, .chan none, .chan none, .chan none, .chan none, .chan none, .chan none, .chan none, .chan none, .chan none, .chan none, .chan none, .chan none, .chan none, .chan none, .chan none, .chan none, .chan none, .chan none, .chan none, .chan none, .chan none, .chan none, .chan none, .chan none, .chan none, .chan none, .chan none, .chan none, .chan none, .chan none, .chan none, .chan none, .chan none, .chan none, .chan none, .chan none, .chan none, .chan none, .chan none, .chan none, .chan none, .chan none, .chan none, .chan none, .chan none, .chan none, .chan none, .chan none, .chan none, .chan none, .chan none, .chan none, .chan none, .chan none, .chan none, .chan none, .chan none, .chan none, .chan none, .chan none, .chan none, .chan none, .chan none, .chan none, .chan none, .chan none, .chan none, .chan none, .chan none, .chan none, .chan none, .chan none, .chan none]) ?_ ?_
  · repeat refine LS.seq ?_
    refine LS.block ?_
    refine LS.loopJ [0, 1, 2, 7, 9, 10] (fun q a L' => ∃ (i : Nat) (T : List Bool) (t : Int), q = m1 - i ∧ i ≤ m1 ∧ T.length = N ∧ t + (frees T : Nat) = N ∧ L' = fm rm rb T L ∧ a = [.int .i64 (N : Nat), l1, l2, .chan none, .chan none, .chan none, .chan none, ptr rm, .chan none, .int .i64 t, .int .i64 (i : Nat), .chan none, .chan none, .chan none, .chan none, .chan none, .chan none, .chan none, .chan none, .chan none, .chan none, .chan none, .chan none, .chan none, .chan none, .chan none, .chan none, .chan none, .chan none, .chan none, .chan none, .chan none, .chan none, .chan none, .chan none, .chan none, .chan none, .chan none, .chan none, .chan none, .chan none, .chan none, .chan none, .chan none, .chan none, .chan none, .chan none, .chan none, .chan none, .chan none, .chan none, .chan none, .chan none, .chan none, .chan none, .chan none, .chan none, .chan none, .chan none, .chan none, .chan none, .chan none, .chan none, .chan none, .chan none, .chan none, .chan none, .chan none, .chan none, .chan none, .chan none, .chan none, .chan none, .chan none, .chan none, .chan none, .chan none, .chan none, .chan none, .chan none, .chan none, .chan none, .chan none, .chan none, .chan none, .chan none, .chan none, .chan none, .chan none, .chan none, .chan none, .chan none, .chan none, .chan none, .chan none, .chan none, .chan none, .chan none, .chan none, .chan none, .chan none, .chan none, .chan none, .chan none, .chan none, .chan none, .chan none, .chan none, .chan none, .chan none, .chan none, .chan none, .chan none, .chan none, .chan none, .chan none, .chan none, .chan none, .chan none, .chan none, .chan none, .chan none, .chan none, .chan none, .chan none, .chan none, .chan none, .chan none, .chan none, .chan none, .chan none, .chan none, .chan none, .chan none, .chan none, .chan none, .chan none, .chan none, .chan none, .chan none, .chan none, .chan none, .chan none, .chan none, .chan none, .chan none, .chan none, .chan none, .chan none, .chan none, .chan none, .chan none, .chan none, .chan none, .chan none]) (n := m1) rfl
      ⟨0, List.replicate N false, 0, rfl, by omega, List.length_replicate, by rw [frees_zeros]; omega, rfl, rfl⟩ ?_
    rintro q a L' ⟨i, T, t, rfl, hi, hT, ht, rfl, rfl⟩
    have hlM : SV 1 (fm rm rb T L) l1 m1 (zs1.map fun z => .int .i64 z) := hl1.cons.cons
    have hfle := frees_le T
    repeat refine LS.seq ?_
    refine LS.region rfl ?_
    refine OS.pure rfl (fun _ => rfl) rfl ?_
    refine OS.pure rfl (fun _ => rfl) rfl ?_
    refine OS.pure rfl (e_len hl1 rfl rfl rfl rfl rfl) rfl ?_
    refine OS.pure rfl (fun _ => rfl) rfl ?_
    refine OS.nil ?_
    repeat refine LS.seq ?_
    refine LS.cond rfl (fun hc => ?_) (fun hc => ?_)
    · have hc := lt_of hc
      have him : i < m1 := by omega
      refine LS.skip ?_
      repeat refine LS.seq ?_
      refine LS.mid [0, 1, 2, 7, 9, 10] (fun a L' => ∃ (T : List Bool) (t : Int), T.length = N ∧ t + (frees T : Nat) = N ∧ L' = fm rm rb T L ∧ a = [.int .i64 (N : Nat), l1, l2, .chan none, .chan none, .chan none, .chan none, ptr rm, .chan none, .int .i64 t, .int .i64 (i : Nat), .chan none, .chan none, .chan none, .chan none, .chan none, .chan none, .chan none, .chan none, .chan none, .chan none, .chan none, .chan none, .chan none, .chan none, .chan none, .chan none, .chan none, .chan none, .chan none, .chan none, .chan none, .chan none, .chan none, .chan none, .chan none, .chan none, .chan none, .chan none, .chan none, .chan none, .chan none, .chan none, .chan none, .chan none, .chan none, .chan none, .chan none, .chan none, .chan none, .chan none, .chan none, .chan none, .chan none, .chan none, .chan none, .chan none, .chan none, .chan none, .chan none, .chan none, .chan none, .chan none, .chan none, .chan none, .chan none, .chan none, .chan none, .chan none, .chan none, .chan none, .chan none, .chan none, .chan none, .chan none, .chan none, .chan none, .chan none, .chan none, .chan none, .chan none, .chan none, .chan none, .chan none, .chan none, .chan none, .chan none, .chan none, .chan none, .chan none, .chan none, .chan none, .chan none, .chan none, .chan none, .chan none, .chan none, .chan none, .chan none, .chan none, .chan none, .chan none, .chan none, .chan none, .chan none, .chan none, .chan none, .chan none, .chan none, .chan none, .chan none, .chan none, .chan none, .chan none, .chan none, .chan none, .chan none, .chan none, .chan none, .chan none, .chan none, .chan none, .chan none, .chan none, .chan none, .chan none, .chan none, .chan none, .chan none, .chan none, .chan none, .chan none, .chan none, .chan none, .chan none, .chan none, .chan none, .chan none, .chan none, .chan none, .chan none, .chan none, .chan none, .chan none, .chan none, .chan none, .chan none, .chan none, .chan none, .chan none, .chan none, .chan none, .chan none, .chan none, .chan none]) ?_ ?_
      · have hcf := claim_frees T (zs1[i]'(by omega))
        repeat refine LS.seq ?_
        refine LS.block ?_
        repeat refine LS.seq ?_
        refine LS.region rfl ?_
        refine OS.pure rfl (fun _ => rfl) rfl ?_
        refine OS.pure rfl (fun _ => rfl) rfl ?_
        refine OS.pure rfl (fun _ => rfl) rfl ?_
        refine OS.at1 (j := i) hlM (u := .int .i64 (zs1[i]'(by omega))) (by simp [show i < zs1.length by omega]) rfl rfl rfl rfl rfl rfl (fun r0 o0 row0 cs0 m0 c0 g0 => ?_)
        refine ⟨_, rfl, ?_⟩
        refine OS.read rfl (e_loadm m0 c0 rfl rfl (part_one rfl g0)) rfl ?_
        refine OS.call noGo rfl (fun _ => rfl) ((Claim_ct (T := T) (by omega) _).mono ?_)
        rintro v L' ⟨rfl, rfl⟩
        by_cases hE : claimE T (zs1[i]'(by omega)) = 0
        · rw [if_pos hE] at hcf
          refine ⟨_, rfl, ?_⟩
          refine OS.pure rfl (e_is (fun _ => rfl) (congrArg Value.bool (show ieqB (claimE T (zs1[i]'(by omega))) 0 = true by rw [ieqB_eq]; simp [hE]))) rfl ?_
          refine OS.nil ?_
          refine LS.cond rfl (fun hc => ?_) (fun hc => by cases hc)
          repeat refine LS.seq ?_
          refine LS.region rfl ?_
          refine OS.pure rfl (fun _ => rfl) rfl ?_
          refine OS.pure rfl (e_add rfl rfl rfl (in_i64 (by omega) (by omega))) rfl ?_
          refine OS.pure rfl (fun _ => rfl) rfl ?_
          refine OS.nil ?_
          exact ⟨claimS T (zs1[i]'(by omega)), _, by rw [claimS_len]; exact hT, by omega, rfl, rfl⟩
        · rw [if_neg hE] at hcf
          refine ⟨_, rfl, ?_⟩
          refine OS.pure rfl (e_is (fun _ => rfl) (congrArg Value.bool (show ieqB (claimE T (zs1[i]'(by omega))) 0 = false by rw [ieqB_eq]; simp [hE]))) rfl ?_
          refine OS.nil ?_
          refine LS.cond rfl (fun hc => by cases hc) (fun hc => ?_)
          refine LS.skip ?_
          exact ⟨claimS T (zs1[i]'(by omega)), _, by rw [claimS_len]; exact hT, by omega, rfl, rfl⟩
      rintro a L' ⟨T2, t2, hT2, ht2, rfl, rfl⟩
      repeat refine LS.seq ?_
      refine LS.region rfl ?_
      refine OS.pure rfl (fun _ => rfl) rfl ?_
      refine OS.pure rfl (e_add rfl rfl rfl (in_i64 (by omega) (by omega))) rfl ?_
      refine OS.pure rfl (fun _ => rfl) rfl ?_
      refine OS.nil ?_
      exact ⟨m1 - (i + 1), by omega, i + 1, T2, t2, rfl, by omega, hT2, ht2, rfl, rfl⟩
    · refine LS.exit ?_
      exact ⟨T, t, hT, ht, rfl, rfl⟩
  rintro a L' ⟨T, t, hT, ht, rfl, rfl⟩
  repeat refine LS.seq ?_
  refine LS.region rfl ?_
  refine OS.pure rfl (fun _ => rfl) rfl ?_
  refine OS.nil ?_
  repeat refine LS.seq ?_
  refine LS.mid [0, 7, 9] (fun a L' => ∃ (T : List Bool) (t : Int), T.length = N ∧ t + (frees T : Nat) = N ∧ L' = fm rm rb T L ∧ a = [.int .i64 (N : Nat), .chan none, .chan none, .chan none, .chan none, .chan none, .chan none, ptr rm, .chan none, .int .i64 t, .chan none, .chan none, .chan none, .chan none, .chan none, .chan none, .chan none, .chan none, .chan none, .chan none, .chan none, .chan none, .chan none, .chan none, .chan none, .chan none, .chan none, .chan none, .chan none, .chan none, .chan none, .chan none, .chan none, .chan none, .chan none, .chan none, .chan none, .chan none, .chan none, .chan none, .chan none, .chan none, .chan none, .chan none, .chan none, .chan none, .chan none, .chan none, .chan none, .chan none, .chan none, .chan none, .chan none, .chan none, .chan none, .chan none, .chan none, .chan none, .chan none, .chan none, .chan none, .chan none, .chan none, .chan none, .chan none, .chan none, .chan none, .chan none, .chan none, .chan none, .chan none, .chan none, .chan none, .chan none, .chan none, .chan none, .chan none, .chan none, .chan none, .chan none, .chan none, .chan none, .chan none, .chan none, .chan none, .chan none, .chan none, .chan none, .chan none, .chan none, .chan none, .chan none, .chan none, .chan none, .chan none, .chan none, .chan none, .chan none, .chan none, .chan none, .chan none, .chan none, .chan none, .chan none, .chan none, .chan none, .chan none, .chan none, .chan none, .chan none, .chan none, .chan none, .chan none, .chan none, .chan none, .chan none, .chan none, .chan none, .chan none, .chan none, .chan none, .chan none, .chan none, .chan none, .chan none, .chan none, .chan none, .chan none, .chan none, .chan none, .chan none, .chan none, .chan none, .chan none, .chan none, .chan none, .chan none, .chan none, .chan none, .chan none, .chan none, .chan none, .chan none, .chan none, .chan none, .chan none, .chan none, .chan none, .chan none, .chan none, .chan none, .chan none, .chan none, .chan none, .chan none]) ?_ ?_
  · repeat refine LS.seq ?_
    refine LS.block ?_
    refine LS.loopJ [0, 2, 7, 9, 11] (fun q a L' => ∃ (i : Nat) (T : List Bool) (t : Int), q = m2 - i ∧ i ≤ m2 ∧ T.length = N ∧ t + (frees T : Nat) = N ∧ L' = fm rm rb T L ∧ a = [.int .i64 (N : Nat), .chan none, l2, .chan none, .chan none, .chan none, .chan none, ptr rm, .chan none, .int .i64 t, .chan none, .int .i64 (i : Nat), .chan none, .chan none, .chan none, .chan none, .chan none, .chan none, .chan none, .chan none, .chan none, .chan none, .chan none, .chan none, .chan none, .chan none, .chan none, .chan none, .chan none, .chan none, .chan none, .chan none, .chan none, .chan none, .chan none, .chan none, .chan none, .chan none, .chan none, .chan none, .chan none, .chan none, .chan none, .chan none, .chan none, .chan none, .chan none, .chan none, .chan none, .chan none, .chan none, .chan none, .chan none, .chan none, .chan none, .chan none, .chan none, .chan none, .chan none, .chan none, .chan none, .chan none, .chan none, .chan none, .chan none, .chan none, .chan none, .chan none, .chan none, .chan none, .chan none, .chan none, .chan none, .chan none, .chan none, .chan none, .chan none, .chan none, .chan none, .chan none, .chan none, .chan none, .chan none, .chan none, .chan none, .chan none, .chan none, .chan none, .chan none, .chan none, .chan none, .chan none, .chan none, .chan none, .chan none, .chan none, .chan none, .chan none, .chan none, .chan none, .chan none, .chan none, .chan none, .chan none, .chan none, .chan none, .chan none, .chan none, .chan none, .chan none, .chan none, .chan none, .chan none, .chan none, .chan none, .chan none, .chan none, .chan none, .chan none, .chan none, .chan none, .chan none, .chan none, .chan none, .chan none, .chan none, .chan none, .chan none, .chan none, .chan none, .chan none, .chan none, .chan none, .chan none, .chan none, .chan none, .chan none, .chan none, .chan none, .chan none, .chan none, .chan none, .chan none, .chan none, .chan none, .chan none, .chan none, .chan none, .chan none, .chan none, .chan none, .chan none, .chan none, .chan none, .chan none]) (n := m2) rfl
      ⟨0, T, t, rfl, by omega, hT, ht, rfl, rfl⟩ ?_
    rintro q a L' ⟨i, T, t, rfl, hi, hT, ht, rfl, rfl⟩
    have hlM : SV 1 (fm rm rb T L) l2 m2 (zs2.map fun z => .int .i64 z) := hl2.cons.cons
    repeat refine LS.seq ?_
    refine LS.region rfl ?_
    refine OS.pure rfl (fun _ => rfl) rfl ?_
    refine OS.pure rfl (fun _ => rfl) rfl ?_
    refine OS.pure rfl (e_len hl2 rfl rfl rfl rfl rfl) rfl ?_
    refine OS.pure rfl (fun _ => rfl) rfl ?_
    refine OS.nil ?_
    repeat refine LS.seq ?_
    refine LS.cond rfl (fun hc => ?_) (fun hc => ?_)
    · have hc := lt_of hc
      have him : i < m2 := by omega
      refine LS.skip ?_
      repeat refine LS.seq ?_
      refine LS.mid [0, 2, 7, 9, 11] (fun a L' => ∃ (T : List Bool) (t : Int), T.length = N ∧ t + (frees T : Nat) = N ∧ L' = fm rm rb T L ∧ a = [.int .i64 (N : Nat), .chan none, l2, .chan none, .chan none, .chan none, .chan none, ptr rm, .chan none, .int .i64 t, .chan none, .int .i64 (i : Nat), .chan none, .chan none, .chan none, .chan none, .chan none, .chan none, .chan none, .chan none, .chan none, .chan none, .chan none, .chan none, .chan none, .chan none, .chan none, .chan none, .chan none, .chan none, .chan none, .chan none, .chan none, .chan none, .chan none, .chan none, .chan none, .chan none, .chan none, .chan none, .chan none, .chan none, .chan none, .chan none, .chan none, .chan none, .chan none, .chan none, .chan none, .chan none, .chan none, .chan none, .chan none, .chan none, .chan none, .chan none, .chan none, .chan none, .chan none, .chan none, .chan none, .chan none, .chan none, .chan none, .chan none, .chan none, .chan none, .chan none, .chan none, .chan none, .chan none, .chan none, .chan none, .chan none, .chan none, .chan none, .chan none, .chan none, .chan none, .chan none, .chan none, .chan none, .chan none, .chan none, .chan none, .chan none, .chan none, .chan none, .chan none, .chan none, .chan none, .chan none, .chan none, .chan none, .chan none, .chan none, .chan none, .chan none, .chan none, .chan none, .chan none, .chan none, .chan none, .chan none, .chan none, .chan none, .chan none, .chan none, .chan none, .chan none, .chan none, .chan none, .chan none, .chan none, .chan none, .chan none, .chan none, .chan none, .chan none, .chan none, .chan none, .chan none, .chan none, .chan none, .chan none, .chan none, .chan none, .chan none, .chan none, .chan none, .chan none, .chan none, .chan none, .chan none, .chan none, .chan none, .chan none, .chan none, .chan none, .chan none, .chan none, .chan none, .chan none, .chan none, .chan none, .chan none, .chan none, .chan none, .chan none, .chan none, .chan none, .chan none, .chan none, .chan none, .chan none]) ?_ ?_
      · have hcf := drop_frees T (zs2[i]'(by omega))
        have hfle := frees_le (dropS T (zs2[i]'(by omega)))
        rw [dropS_len] at hfle
        have hfle2 := frees_le T
        repeat refine LS.seq ?_
        refine LS.block ?_
        repeat refine LS.seq ?_
        refine LS.region rfl ?_
        refine OS.pure rfl (fun _ => rfl) rfl ?_
        refine OS.pure rfl (fun _ => rfl) rfl ?_
        refine OS.pure rfl (fun _ => rfl) rfl ?_
        refine OS.at1 (j := i) hlM (u := .int .i64 (zs2[i]'(by omega))) (by simp [show i < zs2.length by omega]) rfl rfl rfl rfl rfl rfl (fun r0 o0 row0 cs0 m0 c0 g0 => ?_)
        refine ⟨_, rfl, ?_⟩
        refine OS.read rfl (e_loadm m0 c0 rfl rfl (part_one rfl g0)) rfl ?_
        refine OS.call noGo rfl (fun _ => rfl) ((Drop_ct (T := T) (by omega) _).mono ?_)
        rintro v L' ⟨rfl, rfl⟩
        by_cases hE : dropE T (zs2[i]'(by omega)) = 0
        · rw [if_pos hE] at hcf
          refine ⟨_, rfl, ?_⟩
          refine OS.pure rfl (e_is (fun _ => rfl) (congrArg Value.bool (show ieqB (dropE T (zs2[i]'(by omega))) 0 = true by rw [ieqB_eq]; simp [hE]))) rfl ?_
          refine OS.nil ?_
          refine LS.cond rfl (fun hc => ?_) (fun hc => by cases hc)
          repeat refine LS.seq ?_
          refine LS.region rfl ?_
          refine OS.pure rfl (fun _ => rfl) rfl ?_
          refine OS.pure rfl (e_sub rfl rfl rfl (in_i64 (by omega) (by omega))) rfl ?_
          refine OS.pure rfl (fun _ => rfl) rfl ?_
          refine OS.nil ?_
          exact ⟨dropS T (zs2[i]'(by omega)), _, by rw [dropS_len]; exact hT, by omega, rfl, rfl⟩
        · rw [if_neg hE] at hcf
          refine ⟨_, rfl, ?_⟩
          refine OS.pure rfl (e_is (fun _ => rfl) (congrArg Value.bool (show ieqB (dropE T (zs2[i]'(by omega))) 0 = false by rw [ieqB_eq]; simp [hE]))) rfl ?_
          refine OS.nil ?_
          refine LS.cond rfl (fun hc => by cases hc) (fun hc => ?_)
          refine LS.skip ?_
          exact ⟨dropS T (zs2[i]'(by omega)), _, by rw [dropS_len]; exact hT, by omega, rfl, rfl⟩
      rintro a L' ⟨T2, t2, hT2, ht2, rfl, rfl⟩
      repeat refine LS.seq ?_
      refine LS.region rfl ?_
      refine OS.pure rfl (fun _ => rfl) rfl ?_
      refine OS.pure rfl (e_add rfl rfl rfl (in_i64 (by omega) (by omega))) rfl ?_
      refine OS.pure rfl (fun _ => rfl) rfl ?_
      refine OS.nil ?_
      exact ⟨m2 - (i + 1), by omega, i + 1, T2, t2, rfl, by omega, hT2, ht2, rfl, rfl⟩
    · refine LS.exit ?_
      exact ⟨T, t, hT, ht, rfl, rfl⟩
  rintro a L' ⟨T, t, hT, ht, rfl, rfl⟩
  have hT3 : T.length ≤ 32768 := by omega
  have hlf := list_and_free T
  repeat refine LS.seq ?_
  refine LS.region rfl ?_
  refine OS.pure rfl (fun _ => rfl) rfl ?_
  refine OS.call noGo rfl (fun _ => rfl) ((List_ct hT3).mono ?_)
  rintro v L1 hg
  obtain ⟨Y, hsub, hY⟩ := gv_back hg
  refine ⟨_, rfl, ?_⟩
  refine OS.sub hsub ?_
  refine OS.pure rfl (fun _ => rfl) rfl ?_
  refine OS.nil ?_
  repeat refine LS.seq ?_
  refine LS.region rfl ?_
  refine OS.pure rfl (fun _ => rfl) rfl ?_
  refine OS.call noGo rfl (fun _ => rfl) ((Bytes_ct hT3).mono ?_)
  rintro v2 L2 ⟨r, rfl, rfl⟩
  have hml : (mb T).length ≤ 32778 := by
    unfold mb
    rw [List.length_append, pk_len]
    have : (grp T.length).length ≤ 10 := grp_len (by omega) (by omega)
    omega
  refine ⟨_, rfl, ?_⟩
  refine OS.call noGo rfl (fun _ => rfl) ((Load_ct (bs := mb T) (.inl (.inr ⟨r, 0, byteCells (mb T), rfl, List.mem_cons_self .., cut_all (byteCells_len _)⟩)) (by omega)).mono ?_)
  rintro v2 L2 (⟨T2, rm2, rb2, hT2, rfl, rfl⟩ | ⟨hno, _⟩)
  case inr => exact absurd ⟨hT3, rfl⟩ (hno T)
  have hTT := isMap_uniq hT2 ⟨hT3, rfl⟩
  subst hTT
  refine ⟨_, rfl, ?_⟩
  refine OS.pure rfl (fun _ => rfl) rfl ?_
  refine OS.pure rfl (fun _ => rfl) rfl ?_
  refine OS.pure rfl (fun _ => rfl) rfl ?_
  refine OS.pure rfl (fun _ => rfl) rfl ?_
  refine OS.pure rfl (fun _ => rfl) rfl ?_
  refine OS.sub (Sub.drop 2 rfl) ?_
  refine OS.nil ?_
  have htak : ieqB (((lst' T2).length : Nat) : Int) t = true := by rw [ieqB_eq]; simp; omega
  have hadd : ieqB (((frees T2 : Nat) : Int) + ((lst' T2).length : Nat)) (N : Int) = true := by rw [ieqB_eq]; simp; omega
  repeat refine LS.seq ?_
  refine LS.drawn noGo mixed [(0, false), (1, false), (2, false), (3, false), (4, false), (5, false), (6, false), (7, false), (8, false), (9, false), (11, false), (12, false), (14, false), (10, true), (13, false), (15, false), (16, false), (17, false), (18, false), (20, false), (19, true), (21, true), (22, false), (23, false), (24, false), (25, false), (28, false), (26, true), (27, false), (29, true), (30, false), (31, false), (32, false), (33, false), (34, false), (37, false), (35, true), (36, true), (38, true), (39, false), (40, false)] rfl rfl (by kernel_rfl) ?_
  refine ODS.pure rfl rfl (fun _ => rfl) rfl ?_
  refine ODS.pure rfl rfl (fun _ => rfl) rfl ?_
  refine ODS.pure rfl rfl (fun _ => rfl) rfl ?_
  refine ODS.pure rfl rfl (fun _ => rfl) rfl ?_
  refine ODS.pure rfl rfl (e_len hY rfl rfl rfl rfl rfl) rfl ?_
  refine ODS.pure rfl rfl (fun _ => rfl) rfl ?_
  refine ODS.pure rfl rfl (e_bools (fun _ => rfl) (congrArg Bool.not htak)) rfl ?_
  refine ODS.pure rfl rfl (fun _ => rfl) rfl ?_
  refine ODS.pure rfl rfl (fun _ => rfl) rfl ?_
  refine ODS.pure rfl rfl (fun _ => rfl) rfl ?_
  refine ODS.pure rfl rfl (fun _ => rfl) rfl ?_
  refine ODS.pure rfl rfl (e_len hY rfl rfl rfl rfl rfl) rfl ?_
  refine ODS.pure rfl rfl (fun _ => rfl) rfl ?_
  refine ODS.call rfl rfl (fun _ => rfl) ((CS.sub (Sub.pulls [3, 3] rfl) (Free_ct hT3)).mono ?_)
  rintro v3 L3 ⟨rfl, rfl⟩
  refine ⟨_, rfl, Keep.nil, ?_⟩
  refine ODS.pure rfl rfl (e_add rfl rfl rfl (in_i64 (by omega) (by omega))) rfl ?_
  refine ODS.pure rfl rfl (e_bools (fun _ => rfl) (congrArg Bool.not hadd)) rfl ?_
  refine ODS.pure rfl rfl (fun _ => rfl) rfl ?_
  refine ODS.pure rfl rfl (fun _ => rfl) rfl ?_
  refine ODS.pure rfl rfl (fun _ => rfl) rfl ?_
  refine ODS.pure rfl rfl (fun _ => rfl) rfl ?_
  refine ODS.call rfl rfl (fun _ => rfl) ((CS.sub (Sub.pulls [3, 3] rfl) (Free_ct hT3)).mono ?_)
  rintro v3 L3 ⟨rfl, rfl⟩
  refine ⟨_, rfl, Keep.nil, ?_⟩
  refine ODS.call rfl rfl (fun _ => rfl) ((CS.sub (Sub.pulls [3, 3] rfl) (Free_ct hT3)).mono ?_)
  rintro v3 L3 ⟨rfl, rfl⟩
  refine ⟨_, rfl, Keep.nil, ?_⟩
  refine ODS.pure rfl rfl (e_bools (fun _ => rfl) (ne_same _)) rfl ?_
  refine ODS.pure rfl rfl (fun _ => rfl) rfl ?_
  refine ODS.pure rfl rfl (fun _ => rfl) rfl ?_
  refine ODS.pure rfl rfl (fun _ => rfl) rfl ?_
  refine ODS.pure rfl rfl (fun _ => rfl) rfl ?_
  refine ODS.call rfl rfl (fun _ => rfl) ((CS.sub (Sub.pulls [3, 3] rfl) (Bytes_ct hT3)).mono ?_)
  rintro v3 L3 ⟨r1, rfl, rfl⟩
  refine ⟨_, rfl, Keep.nil, ?_⟩
  refine ODS.read rfl rfl (e_textSV (bs := mb T2) (SV.row (sz := 1) (e := 5) (r := r1) (by simp) (by rw [byteCells_len]; omega)) rfl rfl rfl rfl rfl) rfl ?_
  refine ODS.call rfl rfl (fun _ => rfl) ((CS.sub (Sub.pulls [4, 4] rfl) (Bytes_ct hT3)).mono ?_)
  rintro v3 L3 ⟨r2, rfl, rfl⟩
  refine ⟨_, rfl, Keep.cons rfl (e_textSV (bs := mb T2) (SV.row (sz := 1) (e := 5) (r := r1) (by simp) (by rw [byteCells_len]; omega)) rfl rfl rfl rfl rfl) Keep.nil, ?_⟩
  refine ODS.read rfl rfl (e_textSV (bs := mb T2) (SV.row (sz := 1) (e := 5) (r := r2) (by simp) (by rw [byteCells_len]; omega)) rfl rfl rfl rfl rfl) rfl ?_
  refine ODS.pure rfl rfl (e_bools (fun _ => rfl) (ne_texts _)) rfl ?_
  refine ODS.pure rfl rfl (fun _ => rfl) rfl ?_
  refine ODS.pure rfl rfl (fun _ => rfl) rfl ?_
  refine ODS.pure rfl rfl (fun _ => rfl) rfl ?_
  refine ODS.pure rfl rfl (fun _ => rfl) rfl ?_
  refine ODS.call rfl rfl (fun _ => rfl) ((CS.sub (Sub.pulls [2, 2] rfl) (Copy_ct hT3)).mono ?_)
  rintro v3 L3 ⟨rm3, rb3, rfl, rfl⟩
  refine ⟨_, rfl, Keep.gone rfl (Keep.gone rfl Keep.nil), ?_⟩
  refine ODS.call rfl rfl (fun _ => rfl) ((Free_ct hT3).mono ?_)
  rintro v3 L3 ⟨rfl, rfl⟩
  refine ⟨_, rfl, Keep.gone rfl (Keep.gone rfl Keep.nil), ?_⟩
  refine ODS.call rfl rfl (fun _ => rfl) ((CS.sub (Sub.pulls [3, 3] rfl) (Free_ct hT3)).mono ?_)
  rintro v3 L3 ⟨rfl, rfl⟩
  refine ⟨_, rfl, Keep.gone rfl (Keep.gone rfl Keep.nil), ?_⟩
  refine ODS.pure rfl rfl (e_bools (fun _ => rfl) (ne_same _)) rfl ?_
  refine ODS.pure rfl rfl (fun _ => rfl) rfl ?_
  refine ODS.nil ?_
  refine LS.cond rfl (fun hc => by cases hc) (fun hc => ?_)
  refine LS.skip ?_
  repeat refine LS.seq ?_
  refine LS.region rfl ?_
  refine OS.sub (Sub.drop 2 rfl) ?_
  refine OS.sub (Sub.drop 2 rfl) ?_
  refine OS.sub (Sub.drop 2 rfl) ?_
  refine OS.sub (Sub.drop 2 rfl) ?_
  refine OS.pure rfl (fun _ => rfl) rfl ?_
  refine OS.nil ?_
  repeat refine LS.seq ?_
  refine LS.block ?_
  refine LS.loopJ [7, 12, 13, 15] (fun q a L' => ∃ (i : Nat), q = (lst' T2).length - i ∧ i ≤ (lst' T2).length ∧ L' = fm rm rb T2 (fm rm2 rb2 T2 (Y ++ L)) ∧ a = [.chan none, .chan none, .chan none, .chan none, .chan none, .chan none, .chan none, ptr rm, .chan none, .chan none, .chan none, .chan none, v, ptr rm2, .chan none, .int .i64 (i : Nat), .chan none, .chan none, .chan none, .chan none, .chan none, .chan none, .chan none, .chan none, .chan none, .chan none, .chan none, .chan none, .chan none, .chan none, .chan none, .chan none, .chan none, .chan none, .chan none, .chan none, .chan none, .chan none, .chan none, .chan none, .chan none, .chan none, .chan none, .chan none, .chan none, .chan none, .chan none, .chan none, .chan none, .chan none, .chan none, .chan none, .chan none, .chan none, .chan none, .chan none, .chan none, .chan none, .chan none, .chan none, .chan none, .chan none, .chan none, .chan none, .chan none, .chan none, .chan none, .chan none, .chan none, .chan none, .chan none, .chan none, .chan none, .chan none, .chan none, .chan none, .chan none, .chan none, .chan none, .chan none, .chan none, .chan none, .chan none, .chan none, .chan none, .chan none, .chan none, .chan none, .chan none, .chan none, .chan none, .chan none, .chan none, .chan none, .chan none, .chan none, .chan none, .chan none, .chan none, .chan none, .chan none, .chan none, .chan none, .chan none, .chan none, .chan none, .chan none, .chan none, .chan none, .chan none, .chan none, .chan none, .chan none, .chan none, .chan none, .chan none, .chan none, .chan none, .chan none, .chan none, .chan none, .chan none, .chan none, .chan none, .chan none, .chan none, .chan none, .chan none, .chan none, .chan none, .chan none, .chan none, .chan none, .chan none, .chan none, .chan none, .chan none, .chan none, .chan none, .chan none, .chan none, .chan none, .chan none, .chan none, .chan none, .chan none, .chan none, .chan none, .chan none, .chan none, .chan none, .chan none, .chan none, .chan none, .chan none]) (n := (lst' T2).length) rfl
    ⟨0, rfl, by omega, rfl, rfl⟩ ?_
  rintro q a L' ⟨i, rfl, hi, rfl, rfl⟩
  repeat refine LS.seq ?_
  refine LS.region rfl ?_
  refine OS.pure rfl (fun _ => rfl) rfl ?_
  refine OS.pure rfl (fun _ => rfl) rfl ?_
  refine OS.pure rfl (e_len hY rfl rfl rfl rfl rfl) rfl ?_
  refine OS.pure rfl (fun _ => rfl) rfl ?_
  refine OS.nil ?_
  repeat refine LS.seq ?_
  refine LS.cond rfl (fun hc => ?_) (fun hc => ?_)
  · have hc := lt_of hc
    have him : i < (lst' T2).length := by omega
    obtain ⟨hk1, hk2⟩ := lst_mem (List.getElem_mem him)
    have hYM : SV 1 (fm rm rb T2 (fm rm2 rb2 T2 (Y ++ L))) v (lst' T2).length (ints (lst' T2)) := hY.mono fun p hp => by simp [hp]
    have hYN : SV 1 (fm rm2 rb2 T2 (fm rm rb T2 (Y ++ L))) v (lst' T2).length (ints (lst' T2)) := hY.mono fun p hp => by simp [hp]
    have htk : (decide (0 ≤ (((lst' T2)[i] : Nat) : Int) ∧ (((lst' T2)[i] : Nat) : Int) < T2.length) && tkn T2 (((lst' T2)[i] : Nat) : Int).toNat) = true := by
      rw [decide_eq_true (by omega), Int.toNat_natCast, hk2]; rfl
    refine LS.skip ?_
    refine LS.seq ?_
    refine LS.mid [7, 12, 13, 15] (fun a L' => L' = fm rm2 rb2 T2 (fm rm rb T2 (Y ++ L)) ∧ a = [.chan none, .chan none, .chan none, .chan none, .chan none, .chan none, .chan none, ptr rm, .chan none, .chan none, .chan none, .chan none, v, ptr rm2, .chan none, .int .i64 (i : Nat), .chan none, .chan none, .chan none, .chan none, .chan none, .chan none, .chan none, .chan none, .chan none, .chan none, .chan none, .chan none, .chan none, .chan none, .chan none, .chan none, .chan none, .chan none, .chan none, .chan none, .chan none, .chan none, .chan none, .chan none, .chan none, .chan none, .chan none, .chan none, .chan none, .chan none, .chan none, .chan none, .chan none, .chan none, .chan none, .chan none, .chan none, .chan none, .chan none, .chan none, .chan none, .chan none, .chan none, .chan none, .chan none, .chan none, .chan none, .chan none, .chan none, .chan none, .chan none, .chan none, .chan none, .chan none, .chan none, .chan none, .chan none, .chan none, .chan none, .chan none, .chan none, .chan none, .chan none, .chan none, .chan none, .chan none, .chan none, .chan none, .chan none, .chan none, .chan none, .chan none, .chan none, .chan none, .chan none, .chan none, .chan none, .chan none, .chan none, .chan none, .chan none, .chan none, .chan none, .chan none, .chan none, .chan none, .chan none, .chan none, .chan none, .chan none, .chan none, .chan none, .chan none, .chan none, .chan none, .chan none, .chan none, .chan none, .chan none, .chan none, .chan none, .chan none, .chan none, .chan none, .chan none, .chan none, .chan none, .chan none, .chan none, .chan none, .chan none, .chan none, .chan none, .chan none, .chan none, .chan none, .chan none, .chan none, .chan none, .chan none, .chan none, .chan none, .chan none, .chan none, .chan none, .chan none, .chan none, .chan none, .chan none, .chan none, .chan none, .chan none, .chan none, .chan none, .chan none, .chan none, .chan none, .chan none, .chan none]) ?_ ?_
    · repeat refine LS.seq ?_
      refine LS.block ?_
      repeat refine LS.seq ?_
      refine LS.drawn noGo mixed [(0, false), (1, false), (2, false), (3, false), (4, false), (5, true), (6, false), (7, false), (8, false), (9, false), (10, false), (11, false), (12, false), (13, true), (14, false), (15, false), (16, false), (17, false), (18, false), (19, false), (20, false), (21, false), (22, false), (23, false), (24, false), (25, false), (26, false), (27, false), (28, false), (29, false), (30, false), (31, false)] rfl rfl (by kernel_rfl) ?_
      refine ODS.pure rfl rfl (fun _ => rfl) rfl ?_
      refine ODS.pure rfl rfl (fun _ => rfl) rfl ?_
      refine ODS.pure rfl rfl (fun _ => rfl) rfl ?_
      refine ODS.at1 (j := i) hYM (ints_get him) rfl rfl rfl rfl rfl rfl rfl (fun r0 o0 row0 cs0 m0 c0 g0 => ?_)
      refine ⟨_, rfl, ?_⟩
      refine ODS.read rfl rfl (e_loadm m0 c0 rfl rfl (part_one rfl g0)) rfl ?_
      refine ODS.call rfl rfl (fun _ => rfl) ((Taken_ct hT3 _).mono ?_)
      rintro v3 L3 ⟨rfl, rfl⟩
      rw [htk]
      refine ⟨_, rfl, Keep.gone rfl Keep.nil, ?_⟩
      refine ODS.pure rfl rfl (fun _ => rfl) rfl ?_
      refine ODS.pure rfl rfl (fun _ => rfl) rfl ?_
      refine ODS.pure rfl rfl (fun _ => rfl) rfl ?_
      refine ODS.pure rfl rfl (fun _ => rfl) rfl ?_
      refine ODS.pure rfl rfl (fun _ => rfl) rfl ?_
      refine ODS.at1 (j := i) hYM (ints_get him) rfl rfl rfl rfl rfl rfl rfl (fun r1 o1 row1 cs1 m1 c1 g1 => ?_)
      refine ⟨_, rfl, ?_⟩
      refine ODS.read rfl rfl (e_loadm m1 c1 rfl rfl (part_one rfl g1)) rfl ?_
      refine ODS.call rfl rfl (fun _ => rfl) ((CS.sub (Sub.pulls [3, 3] rfl) (Taken_ct hT3 _)).mono ?_)
      rintro v3 L3 ⟨rfl, rfl⟩
      rw [htk]
      refine ⟨_, rfl, Keep.gone rfl (Keep.gone rfl Keep.nil), ?_⟩
      refine ODS.pure rfl rfl (fun _ => rfl) rfl ?_
      refine ODS.pure rfl rfl (fun _ => rfl) rfl ?_
      refine ODS.pure rfl rfl (fun _ => rfl) rfl ?_
      refine ODS.pure rfl rfl (fun _ => rfl) rfl ?_
      by_cases h0 : 0 < i
      · have hb1 : (!ileB (i : Int) 0) = true := by rw [ileB_eq]; simp; omega
        have hlt : (lst' T2)[i - 1]'(by omega) < (lst' T2)[i] := List.pairwise_iff_getElem.1 (lst_rises T2) _ _ _ _ (by omega)
        have hb2 : ileB (((lst' T2)[i] : Nat) : Int) (((lst' T2)[i - 1]'(by omega) : Nat) : Int) = false := by rw [ileB_eq]; simp; omega
        refine ODS.pure rfl rfl (e_bools (fun _ => rfl) hb1) rfl ?_
        refine ODS.pure rfl rfl (fun _ => rfl) rfl ?_
        refine ODS.pure rfl rfl (fun _ => rfl) rfl ?_
        refine ODS.pure rfl rfl (fun _ => rfl) rfl ?_
        refine ODS.pure rfl rfl (e_is (e_sub rfl rfl rfl (in_i64 (by omega) (by omega))) (show Value.int .i64 ((i : Int) - 1) = .int .i64 ((i - 1 : Nat) : Int) by congr 1; omega)) rfl ?_
        refine ODS.at1 (j := i - 1) hYN (ints_get (show i - 1 < (lst' T2).length by omega)) rfl rfl rfl rfl rfl rfl rfl (fun r2 o2 row2 cs2 m2 c2 g2 => ?_)
        refine ⟨_, rfl, ?_⟩
        refine ODS.read rfl rfl (e_loadm m2 c2 rfl rfl (part_one rfl g2)) rfl ?_
        refine ODS.pure rfl rfl (fun _ => rfl) rfl ?_
        refine ODS.pure rfl rfl (fun _ => rfl) rfl ?_
        refine ODS.at1 (j := i) hYN (ints_get him) rfl rfl rfl rfl rfl rfl rfl (fun r3 o3 row3 cs3 m3 c3 g3 => ?_)
        refine ⟨_, rfl, ?_⟩
        refine ODS.read rfl rfl (e_loadm m3 c3 rfl rfl (part_one rfl g3)) rfl ?_
        refine ODS.pure rfl rfl (e_bools (fun _ => rfl) hb2) rfl ?_
        refine ODS.pure rfl rfl (fun _ => rfl) rfl ?_
        refine ODS.pure rfl rfl (fun _ => rfl) rfl ?_
        refine ODS.nil ?_
        refine LS.cond rfl (fun hc => by cases hc) (fun hc => ?_)
        refine LS.skip ?_
        exact ⟨rfl, rfl⟩
      · have hb1 : (!ileB (i : Int) 0) = false := by rw [ileB_eq]; simp; omega
        refine ODS.pure rfl rfl (e_bools (fun _ => rfl) hb1) rfl ?_
        refine ODS.pure rfl rfl (fun _ => rfl) rfl ?_
        refine ODS.skip rfl rfl rfl ?_
        refine ODS.skip rfl rfl rfl ?_
        refine ODS.skip rfl rfl rfl ?_
        refine ODS.skip rfl rfl rfl ?_
        refine ODS.skip rfl rfl rfl ?_
        refine ODS.skip rfl rfl rfl ?_
        refine ODS.skip rfl rfl rfl ?_
        refine ODS.skip rfl rfl rfl ?_
        refine ODS.skip rfl rfl rfl ?_
        refine ODS.skip rfl rfl rfl ?_
        refine ODS.pure rfl rfl (fun _ => rfl) rfl ?_
        refine ODS.pure rfl rfl (fun _ => rfl) rfl ?_
        refine ODS.nil ?_
        refine LS.cond rfl (fun hc => by cases hc) (fun hc => ?_)
        refine LS.skip ?_
        exact ⟨rfl, rfl⟩
    rintro a L' ⟨rfl, rfl⟩
    refine LS.sub (Sub.pulls [3, 3] rfl) ?_
    repeat refine LS.seq ?_
    refine LS.region rfl ?_
    refine OS.pure rfl (fun _ => rfl) rfl ?_
    refine OS.pure rfl (e_add rfl rfl rfl (in_i64 (by omega) (by omega))) rfl ?_
    refine OS.pure rfl (fun _ => rfl) rfl ?_
    refine OS.nil ?_
    exact ⟨(lst' T2).length - (i + 1), by omega, i + 1, rfl, by omega, rfl, rfl⟩
  · refine LS.exit ?_
    repeat refine LS.seq ?_
    refine LS.region rfl ?_
    refine OS.pure rfl (fun _ => rfl) rfl ?_
    refine OS.nil ?_
    refine LS.ret ⟨_, fun _ _ => rfl, ?_⟩
    rfl
end Go.Proofs.Ytlifdkihjnnonaa
