/- Layer 15: the heap: up, down, Push, Pop; what is ready. -/
import Derived.Test.YteakbbnlkjckhaaGrC
namespace Go.Proofs.Yteakbbnlkjckhaa
open Go.Am Go.Gp
set_option linter.unusedVariables false
set_option linter.unusedSimpArgs false
set_option maxRecDepth 20000
set_option maxHeartbeats 4000000
attribute [local irreducible] OS LSr ODS CS
section
variable {rr r : Nat} {H : List Nat} {J : List Value} {F : RL}
theorem st_row : (rr, .cells tQ [.slice (some ⟨r, 0, none⟩) H.length openCap]) ∈ st rr r H J F := List.mem_cons_self ..
theorem st_sv : SV 1 (st rr r H J F) (.slice (some ⟨r, 0, none⟩) H.length openCap) H.length (ns H) := .inr ⟨r, 0, openCap, _, ns H ++ J, rfl, List.mem_cons_of_mem _ (List.mem_cons_self ..), rfl, by rw [cut_of (by simp [ns_len])]; simp [ns_len]⟩
end
theorem up_ct {rr r j : Nat} {H : List Nat} {J : List Value} {F : RL} (hj : j < H.length) (hu : UpI H H.length j) (hb : H.length ≤ 1000000) :
    CS Try.prog 36 [ifc rr, iN j] (st rr r H J F) fun v L' => ∃ H', L' = st rr r H' J F ∧ H'.Perm H ∧ Hp H' := by
  refine CS.mk (fn := Try.f36) rfl rfl rfl rfl ?_
  refine yG ?_
  refine LS.loopJ [0, 1] (fun q a L' => ∃ (j : Nat) (H' : List Nat), q = j ∧ j < H'.length ∧ H'.Perm H ∧ UpI H' H'.length j ∧ L' = st rr r H' J F ∧ a = [ifc rr, iN j, .chan none, .chan none, .chan none, .chan none, .chan none, .chan none, .chan none, .chan none, .chan none, .chan none, .chan none, .chan none, .chan none, .chan none, .chan none, .chan none, .chan none, .chan none, .chan none, .chan none, .chan none]) (n := j) rfl ⟨j, H, rfl, hj, .refl _, hu, rfl, rfl⟩ ?_
  clear hu hj
  rintro q a L' ⟨j, H', rfl, hj, hp, hu, rfl, rfl⟩
  have hlen := hp.length_eq
  rcases Nat.eq_zero_or_pos q with rfl | h0
  · repeat refine LS.seq ?_
    refine LS.block ?_
    repeat refine LS.seq ?_
    refine LS.region rfl ?_
    refine OS.pure rfl (fun _ => rfl) rfl ?_
    refine OS.pure rfl (e_is (v' := .int .i64 (-1)) (fun _ => rfl) rfl) rfl ?_
    refine OS.pure rfl (e_is (v' := iN 0) (fun _ => rfl) rfl) rfl ?_
    refine OS.pure rfl (fun _ => rfl) rfl ?_
    refine OS.nil ?_
    repeat refine LS.seq ?_
    refine LS.region rfl ?_
    refine OS.pure rfl (fun _ => rfl) rfl ?_
    refine OS.pure rfl (fun _ => rfl) rfl ?_
    refine OS.pure rfl (e_is (v' := .bool true) (fun _ => rfl) rfl) rfl ?_
    refine yG ?_
    refine LS.exit ?_
    refine ⟨_, fun _ _ => rfl, ?_⟩
    exact ⟨H', rfl, hp, hu.top⟩
  · repeat refine LS.seq ?_
    refine LS.block ?_
    repeat refine LS.seq ?_
    refine LS.region rfl ?_
    refine OS.pure rfl (fun _ => rfl) rfl ?_
    refine OS.pure rfl (y_subN (n := 1) rfl rfl rfl (by omega) (in_i64 (by omega) (by omega))) rfl ?_
    refine OS.pure rfl (e_quo (n := 2) rfl rfl rfl (by omega) (in_i64 (by omega) (by omega))) rfl ?_
    refine OS.pure rfl (fun _ => rfl) rfl ?_
    refine OS.nil ?_
    have hb1 : ieqB (((q - 1) / 2 : Nat) : Int) (q : Nat) = false := by rw [ieqB_eq]; simp; omega
    refine yG ?_
    have hi : (q - 1) / 2 < H'.length := by omega
    refine OS.callH noGo rfl (e_invoke rfl rfl rfl rfl (m_field mLess st_row)) ((Less_ct st_sv (ns_at (of_at hj)) (ns_at (of_at hi))).mono ?_)
    rintro v' L2 ⟨rfl, hL⟩
    rw [hL]
    clear hL
    by_cases hlt : at' H' q < at' H' ((q - 1) / 2)
    · rw [decide_eq_true hlt]
      refine yG ?_
      refine OS.callH noGo rfl (e_invoke rfl rfl rfl rfl (m_field mSwap st_row)) ((Swap_ct hi hj).mono ?_)
      rintro v' L2 hL
      rw [hL]
      clear hL
      refine yG ?_
      exact ⟨(q - 1) / 2, by omega, (q - 1) / 2, swp H' ((q - 1) / 2) q, rfl, by rw [swp_len]; exact hi, (swp_perm hi hj).trans hp, by rw [swp_len]; exact hu.step (Nat.le_refl _) h0 hj hlt, by unfold st; rw [swp_len], rfl⟩
    · rw [decide_eq_false hlt]
      refine yG ?_
      refine LS.exit ?_
      refine ⟨_, fun _ _ => rfl, ?_⟩
      exact ⟨H', rfl, hp, hu.done (by omega)⟩
theorem down_ct {rr r n : Nat} {H : List Nat} {J : List Value} {F : RL} (hn : n ≤ H.length) (hu : DnI H n 0) (hb : H.length ≤ 1000000) :
    CS Try.prog 37 [ifc rr, iN 0, iN n] (st rr r H J F) fun v L' => ∃ H', L' = st rr r H' J F ∧ H'.Perm H ∧ HO H' n ∧ H'.drop n = H.drop n := by
  refine CS.mk (fn := Try.f37) rfl rfl rfl rfl ?_
  refine yG ?_
  refine LS.loopJ [0, 1, 2, 7] (fun q a L' => ∃ (i : Nat) (H' : List Nat), q = H.length - i ∧ (i < H.length ∨ i = 0) ∧ H'.Perm H ∧ DnI H' n i ∧ H'.drop n = H.drop n ∧ L' = st rr r H' J F ∧ a = [ifc rr, iN 0, iN n, .chan none, .chan none, .chan none, .chan none, iN i, .chan none, .chan none, .chan none, .chan none, .chan none, .chan none, .chan none, .chan none, .chan none, .chan none, .chan none, .chan none, .chan none, .chan none, .chan none, .chan none, .chan none, .chan none, .chan none, .chan none, .chan none, .chan none, .chan none, .chan none, .chan none, .chan none, .chan none, .chan none, .chan none, .chan none, .chan none, .chan none, .chan none, .chan none, .chan none, .chan none, .chan none, .chan none, .chan none, .chan none]) (n := H.length) rfl ⟨0, H, by omega, .inr rfl, .refl _, hu, rfl, rfl, rfl⟩ ?_
  clear hu
  rintro q a L' ⟨i, H', rfl, hi0, hp, hu, hd, rfl, rfl⟩
  have hlen := hp.length_eq
  repeat refine LS.seq ?_
  refine LS.block ?_
  repeat refine LS.seq ?_
  refine LS.region rfl ?_
  refine OS.pure rfl (fun _ => rfl) rfl ?_
  refine OS.pure rfl (e_is (v' := iN (2 * i)) (e_mul (m := (2 : Int)) (n := (i : Int)) rfl rfl rfl (in_i64 (by omega) (by omega))) (by simp)) rfl ?_
  have hz : (!ileB 0 ((2 * i + 1 : Nat) : Int)) = false := by rw [ileB_eq]; simp; omega
  by_cases hge : n ≤ 2 * i + 1
  · have hb1 : ileB ((n : Nat) : Int) ((2 * i + 1 : Nat) : Int) = true := by rw [ileB_eq]; simp; omega
    refine yG ?_
    refine LS.exit ?_
    refine yG ?_
    exact ⟨hp, hu.leaf hge, hd⟩
  have hb1 : ileB ((n : Nat) : Int) ((2 * i + 1 : Nat) : Int) = false := by rw [ileB_eq]; simp; omega
  have hi : i < H'.length := by omega
  have h1 : 2 * i + 1 < H'.length := by omega
  by_cases h2n : 2 * i + 1 + 1 < n
  · have hb2 : (!ileB ((n : Nat) : Int) ((2 * i + 1 + 1 : Nat) : Int)) = true := by rw [ileB_eq]; simp; omega
    have h2 : 2 * i + 1 + 1 < H'.length := by omega
    refine yG ?_
    refine OS.callH noGo rfl (e_invoke rfl rfl rfl rfl (m_field mLess st_row)) ((Less_ct st_sv (ns_at (of_at h2)) (ns_at (of_at h1))).mono ?_)
    rintro v' L2 ⟨rfl, hL⟩
    rw [hL]
    clear hL
    by_cases hlt : at' H' (2 * i + 1 + 1) < at' H' (2 * i + 1)
    · rw [decide_eq_true hlt]
      refine yG ?_
      refine OS.callH noGo rfl (e_invoke rfl rfl rfl rfl (m_field mLess st_row)) ((Less_ct st_sv (ns_at (of_at h2)) (ns_at (of_at hi))).mono ?_)
      rintro v' L2 ⟨rfl, hL⟩
      rw [hL]
      clear hL
      by_cases hlt2 : at' H' (2 * i + 1 + 1) < at' H' i
      · rw [decide_eq_true hlt2]
        refine yG ?_
        refine OS.callH noGo rfl (e_invoke rfl rfl rfl rfl (m_field mSwap st_row)) ((Swap_ct hi h2).mono ?_)
        rintro v' L2 hL
        rw [hL]
        clear hL
        refine yG ?_
        exact ⟨H.length - (2 * i + 1 + 1), by omega, 2 * i + 1 + 1, swp H' i (2 * i + 1 + 1), rfl, .inl (by omega), (swp_perm hi h2).trans hp, hu.step (by omega) (.inr (by omega)) h2n hlt2 (by omega) (fun _ => Nat.le_refl _), by rw [swp_drop (by omega) h2n]; exact hd, by unfold st; rw [swp_len], rfl⟩
      · rw [decide_eq_false hlt2]
        refine yG ?_
        refine LS.exit ?_
        refine yG ?_
        exact ⟨hp, hu.done (by omega) (fun _ => by show _ ≤ at' H' (2 * i + 1 + 1); omega), hd⟩
    · rw [decide_eq_false hlt]
      refine yG ?_
      refine OS.callH noGo rfl (e_invoke rfl rfl rfl rfl (m_field mLess st_row)) ((Less_ct st_sv (ns_at (of_at h1)) (ns_at (of_at hi))).mono ?_)
      rintro v' L2 ⟨rfl, hL⟩
      rw [hL]
      clear hL
      by_cases hlt2 : at' H' (2 * i + 1) < at' H' i
      · rw [decide_eq_true hlt2]
        refine yG ?_
        refine OS.callH noGo rfl (e_invoke rfl rfl rfl rfl (m_field mSwap st_row)) ((Swap_ct hi h1).mono ?_)
        rintro v' L2 hL
        rw [hL]
        clear hL
        refine yG ?_
        exact ⟨H.length - (2 * i + 1), by omega, 2 * i + 1, swp H' i (2 * i + 1), rfl, .inl (by omega), (swp_perm hi h1).trans hp, hu.step (by omega) (.inl rfl) (by omega) hlt2 (by omega) (fun _ => by show _ ≤ at' H' (2 * i + 1 + 1); omega), by rw [swp_drop (by omega) (by omega)]; exact hd, by unfold st; rw [swp_len], rfl⟩
      · rw [decide_eq_false hlt2]
        refine yG ?_
        refine LS.exit ?_
        refine yG ?_
        exact ⟨hp, hu.done (by omega) (fun _ => by show _ ≤ at' H' (2 * i + 1 + 1); omega), hd⟩
  · have hb2 : (!ileB ((n : Nat) : Int) ((2 * i + 1 + 1 : Nat) : Int)) = false := by rw [ileB_eq]; simp; omega
    refine yG ?_
    refine OS.callH noGo rfl (e_invoke rfl rfl rfl rfl (m_field mLess st_row)) ((Less_ct st_sv (ns_at (of_at h1)) (ns_at (of_at hi))).mono ?_)
    rintro v' L2 ⟨rfl, hL⟩
    rw [hL]
    clear hL
    by_cases hlt2 : at' H' (2 * i + 1) < at' H' i
    · rw [decide_eq_true hlt2]
      refine yG ?_
      refine OS.callH noGo rfl (e_invoke rfl rfl rfl rfl (m_field mSwap st_row)) ((Swap_ct hi h1).mono ?_)
      rintro v' L2 hL
      rw [hL]
      clear hL
      refine yG ?_
      exact ⟨H.length - (2 * i + 1), by omega, 2 * i + 1, swp H' i (2 * i + 1), rfl, .inl (by omega), (swp_perm hi h1).trans hp, hu.step (by omega) (.inl rfl) (by omega) hlt2 (by omega) (fun h => absurd h h2n), by rw [swp_drop (by omega) (by omega)]; exact hd, by unfold st; rw [swp_len], rfl⟩
    · rw [decide_eq_false hlt2]
      refine yG ?_
      refine LS.exit ?_
      refine yG ?_
      exact ⟨hp, hu.done (by omega) (fun h => absurd h h2n), hd⟩
end Go.Proofs.Yteakbbnlkjckhaa
