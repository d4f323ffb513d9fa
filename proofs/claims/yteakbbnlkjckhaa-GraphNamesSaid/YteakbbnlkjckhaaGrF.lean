/- Layer 15: put and take; what is handed on. -/
import Derived.Test.YteakbbnlkjckhaaGrE
namespace Go.Proofs.Yteakbbnlkjckhaa
open Go.Am Go.Gp
set_option linter.unusedVariables false
set_option linter.unusedSimpArgs false
set_option maxRecDepth 20000
set_option maxHeartbeats 4000000
attribute [local irreducible] OS LSr ODS CS
theorem HPush_ct {rr x : Nat} {H : List Nat} {Y F : RL} (hw : HW rr H Y) (hh : Hp H) (hb : H.length + 1 ≤ 1000000) :
    CS Try.prog 34 [ifc rr, .iface tI (iN x)] (Y ++ F) fun v L' => ∃ Y' H', L' = Y' ++ F ∧ HW rr H' Y' ∧ Hp H' ∧ H'.Perm (x :: H) := by
  have hl : (H ++ [x]).length = H.length + 1 := by simp
  refine CS.mk (fn := Try.f34) rfl rfl rfl rfl ?_
  refine yG ?_
  refine OS.callH noGo rfl (e_invoke rfl rfl rfl rfl (m_ptr mPush)) ((MPush_ct hw (by omega)).mono ?_)
  rintro v' L2 ⟨r, rfl⟩
  refine yG ?_
  refine OS.callH noGo rfl (e_invoke rfl rfl rfl rfl (m_field mLen st_row)) ((Len_ct st_sv).mono ?_)
  rintro v' L2 ⟨rfl, hL⟩
  rw [hL, hl]
  clear hL
  refine ⟨_, rfl, ?_⟩
  refine OS.pure rfl (y_subN (n := 1) rfl rfl rfl (by omega) (in_i64 (by omega) (by omega))) rfl ?_
  rw [show H.length + 1 - 1 = H.length by omega]
  refine OS.call noGo rfl (fun _ => rfl) ((up_ct (by omega) (by rw [hl]; exact push_up hh x) (by omega)).mono ?_)
  rintro v' L2 ⟨H', rfl, hp, hh'⟩
  refine yG ?_
  refine ⟨_, fun _ _ => rfl, ?_⟩
  exact ⟨st rr r H' [] [], H', rfl, .inr ⟨r, [], rfl⟩, hh', hp.trans List.perm_append_comm⟩
theorem HPop_ct {rr : Nat} {H : List Nat} {Y F : RL} (hw : HW rr H Y) (hh : Hp H) (h0 : 0 < H.length) (hb : H.length ≤ 1000000) :
    CS Try.prog 35 [ifc rr] (Y ++ F) fun v L' => v = .iface tI (iN (at' H 0)) ∧ ∃ Y' H', L' = Y' ++ F ∧ HW rr H' Y' ∧ Hp H' ∧ H.Perm (at' H 0 :: H') := by
  obtain ⟨r, J, rfl⟩ : ∃ r J, Y = st rr r H J [] := by
    rcases hw with ⟨rfl, _⟩ | h
    · simp at h0
    · exact h
  rw [st_app]
  obtain ⟨n, hn⟩ : ∃ n, H.length = n + 1 := ⟨H.length - 1, by omega⟩
  refine CS.mk (fn := Try.f35) rfl rfl rfl rfl ?_
  refine yG ?_
  refine OS.callH noGo rfl (e_invoke rfl rfl rfl rfl (m_field mLen st_row)) ((Len_ct st_sv).mono ?_)
  rintro v' L2 ⟨rfl, hL⟩
  rw [hL, hn]
  clear hL
  refine ⟨_, rfl, ?_⟩
  refine OS.pure rfl (y_subN (n := 1) rfl rfl rfl (by omega) (in_i64 (by omega) (by omega))) rfl ?_
  rw [show n + 1 - 1 = n by omega]
  refine yG ?_
  refine OS.callH noGo rfl (e_invoke rfl rfl rfl rfl (m_field mSwap st_row)) ((Swap_ct (i := 0) (j := n) h0 (by omega)).mono ?_)
  rintro v' L2 hL
  rw [hL]
  clear hL
  refine yG ?_
  have hl2 : (swp H 0 n).length = n + 1 := by rw [swp_len, hn]
  have hd := pop_down hh hn
  refine OS.call noGo rfl (fun _ => rfl) ((down_ct (by omega) hd (by omega)).mono ?_)
  rintro v' L2 ⟨H', rfl, hp, ho, hdr⟩
  have hl3 := hp.length_eq
  have hlast : H' = H'.take n ++ [at' H 0] := by
    have h1 : H'.drop n = [at' H 0] := by
      rw [hdr]
      apply List.ext_getElem?
      intro i
      rw [List.getElem?_drop]
      cases i with
      | zero =>
        rw [Nat.add_zero, of_at (by omega), swp_at (by omega) (by omega)]
        by_cases h : n = 0
        · subst h; rfl
        · rw [if_neg h, if_pos rfl]; rfl
      | succ i => rw [List.getElem?_eq_none (by omega)]; rfl
    rw [← h1, List.take_append_drop]
  generalize hT : H'.take n = T at hlast
  have hTl : T.length = n := by rw [← hT, List.length_take]; omega
  have hTh : Hp T := by rw [← hT]; exact ho.take (by omega)
  subst hlast
  refine yG ?_
  refine OS.callH noGo rfl (e_invoke rfl rfl rfl rfl (m_ptr mPop)) ((MPop_ct (by omega)).mono ?_)
  rintro v' L2 ⟨rfl, J', rfl⟩
  refine yG ?_
  exact ⟨rfl, st rr r T J' [], T, rfl, .inr ⟨r, J', rfl⟩, hTh, ((swp_perm h0 (by omega)).symm.trans hp.symm).trans List.perm_append_comm⟩
theorem put_ct {rr x : Nat} {H : List Nat} {Y F : RL} (hw : HW rr H Y) (hh : Hp H) (hb : H.length + 1 ≤ 1000000) :
    CS Try.prog 29 [.pointer (some ⟨rr, 0, none⟩), iN x] (Y ++ F) fun v L' => ∃ Y' H', L' = Y' ++ F ∧ HW rr H' Y' ∧ Hp H' ∧ H'.Perm (x :: H) := by
  refine CS.mk (fn := Try.f29) rfl rfl rfl rfl ?_
  refine yG ?_
  refine OS.call noGo rfl (fun _ => rfl) ((HPush_ct hw hh hb).mono ?_)
  rintro v' L2 h
  refine yG ?_
  refine ⟨_, fun _ _ => rfl, ?_⟩
  exact h
theorem take_ct {rr : Nat} {H : List Nat} {Y F : RL} (hw : HW rr H Y) (hh : Hp H) (h0 : 0 < H.length) (hb : H.length ≤ 1000000) :
    CS Try.prog 31 [.pointer (some ⟨rr, 0, none⟩)] (Y ++ F) fun v L' => v = iN (at' H 0) ∧ ∃ Y' H', L' = Y' ++ F ∧ HW rr H' Y' ∧ Hp H' ∧ H.Perm (at' H 0 :: H') := by
  refine CS.mk (fn := Try.f31) rfl rfl rfl rfl ?_
  refine yG ?_
  refine OS.call noGo rfl (fun _ => rfl) ((HPop_ct hw hh h0 hb).mono ?_)
  rintro v' L2 ⟨rfl, h⟩
  refine yG ?_
  exact ⟨rfl, h⟩
end Go.Proofs.Yteakbbnlkjckhaa
