/- Layer 13: the document's Subst. -/
import Derived.Test.YtllcbjaajffaeaaXh
namespace Go.Proofs.Ytllcbjaajffaeaa
open Go.Am Go.Xp
set_option linter.unusedVariables false
set_option linter.unusedSimpArgs false
set_option maxRecDepth 20000
set_option maxHeartbeats 8000000
attribute [local irreducible] OS LSr ODS CS YS
theorem drop1 {s : W} {i : Nat} {c : UInt8} (h : s[i]? = some c) : s.drop i = c :: s.drop (i + 1) := by
  obtain ⟨hl, h⟩ := List.getElem?_eq_some_iff.1 h
  rw [List.drop_eq_getElem_cons hl, h]
theorem gv_app {X w : W} {r : Nat} {L : RL} : GV 5 1 L (.slice (some ⟨r, 0, none⟩) (X.length + w.length) openCap) (X ++ w).length (byteCells (X ++ w)) ((r, .cells 5 (byteCells X ++ byteCells w)) :: L) := by
  rw [byteCells_append, List.length_append]
  exact GV.of (by rw [List.length_append, byteCells_len, byteCells_len]; simp)
theorem refSubst_ct {L : RL} {v : Value} {l : List (W × W)} (s : W) (hs : s.length ≤ 1000000) (hv : SV 2 L v l.length (fl l)) (hl : l.length ≤ 100000) (hw : ∀ p, p ∈ l → p.2.length ≤ 1000000) :
    CS Try.prog 11 [str s, v] L fun u L' => u = putV (subst (Xp.look l) s) ∧ L' = L := by
  suffices h : CS Try.prog 11 [str s, v] L fun u L' => u = putV (subst (Xp.look l) s) ∧ Sub L L' from h.less fun u L' ⟨h1, h2⟩ => ⟨L, h2, h1, rfl⟩
  refine CS.mk (fn := Try.f11) rfl rfl rfl rfl ?_
  refine yG ?_
  refine LS.loopJ [0, 1, 6, 7] (fun q a L' => ∃ (i : Nat) (acc : W) (ov : Value), q = s.length - i ∧ i ≤ s.length ∧ acc.length ≤ i * 1000000 ∧ sub (Xp.look l) (s.length + 1) s = pre acc (sub (Xp.look l) ((s.drop i).length + 1) (s.drop i)) ∧ GV 5 1 L ov acc.length (byteCells acc) L' ∧ a = [str s, v, .chan none, .chan none, .chan none, .chan none, ov, .int .i64 (i : Nat), .chan none, .chan none, .chan none, .chan none, .chan none, .chan none, .chan none, .chan none, .chan none, .chan none, .chan none, .chan none, .chan none, .chan none, .chan none, .chan none, .chan none, .chan none, .chan none, .chan none, .chan none, .chan none, .chan none, .chan none, .chan none, .chan none, .chan none, .chan none, .chan none, .chan none, .chan none, .chan none, .chan none, .chan none, .chan none, .chan none, .chan none, .chan none, .chan none, .chan none, .chan none, .chan none, .chan none, .chan none, .chan none, .chan none, .chan none, .chan none, .chan none, .chan none, .chan none, .chan none, .chan none, .chan none, .chan none, .chan none, .chan none, .chan none, .chan none, .chan none, .chan none, .chan none, .chan none, .chan none, .chan none, .chan none, .chan none, .chan none, .chan none, .chan none, .chan none, .chan none, .chan none, .chan none, .chan none, .chan none, .chan none, .chan none, .chan none, .chan none, .chan none, .chan none, .chan none, .chan none, .chan none, .chan none, .chan none, .chan none, .chan none, .chan none, .chan none, .chan none, .chan none, .chan none, .chan none, .chan none, .chan none, .chan none, .chan none, .chan none, .chan none, .chan none, .chan none, .chan none, .chan none, .chan none, .chan none, .chan none, .chan none, .chan none, .chan none, .chan none, .chan none, .chan none, .chan none, .chan none, .chan none, .chan none, .chan none, .chan none, .chan none, .chan none, .chan none, .chan none, .chan none, .chan none, .chan none, .chan none, .chan none, .chan none, .chan none, .chan none, .chan none, .chan none, .chan none, .chan none, .chan none, .chan none]) (n := s.length) rfl ⟨0, [], .slice none 0 0, rfl, by omega, by simp, by rw [pre_nil]; rfl, GV.nil, rfl⟩ ?_
  rintro q a L' ⟨i, acc, ov, rfl, hi, hal, hD, hg, rfl⟩
  refine yG ?_
  repeat refine LS.seq ?_
  refine LS.cond rfl (fun hc => ?_) (fun hc => ?_)
  · have hc := lt_of hc
    obtain ⟨c, hck⟩ := ext_list (l := s) (k := i) (by omega)
    have hdr : s.drop i = c :: s.drop (i + 1) := drop1 hck
    refine LS.skip ?_
    by_cases h36 : c = 36
    · have b36 : (!ieqB (c.toNat : Nat) 36) = false := by rw [cmp_u8 (k := 36) c 36 rfl, h36]; rfl
      rw [hdr, h36, sub_dollar] at hD
      cases ht : s.drop (i + 1) with
      | nil =>
        have hil : i + 1 = s.length := by
          have := congrArg List.length ht
          simp at this; omega
        have bA : (!ileB ((s.length : Nat) : Int) ((i + 1 : Nat) : Int)) = false := by rw [ileB_eq]; simp; omega
        obtain ⟨t, htt⟩ : ∃ t : W, t = [] := ⟨_, rfl⟩
        have hu : s.drop (i + 1) = t := by rw [ht, htt]
        have hmk : Xp.mark t = if run t = [] ∨ 24 < (run t).length then none else some (some (run t), t.drop (run t).length) := by rw [htt]; rfl
        rw [hu] at hD
        clear ht
        obtain ⟨hrt, hrl⟩ := run_take t
        have hul : s.length = i + 1 + t.length := by rw [← hu, List.length_drop]; omega
        refine yG ?_
        refine LS.loopJ [0, 1, 6, 7, 8, 9] (fun q a L2 => ∃ m : Nat, q = (run t).length - m ∧ m ≤ (run t).length ∧ L2 = L' ∧ a = [str s, v, .chan none, .chan none, .chan none, .chan none, ov, .int .i64 ((i + 1 + m : Nat) : Int), .bool false, .int .i64 ((i + 1 : Nat) : Int), .chan none, .chan none, .chan none, .chan none, .chan none, .chan none, .chan none, .chan none, .chan none, .chan none, .chan none, .chan none, .chan none, .chan none, .chan none, .chan none, .chan none, .chan none, .chan none, .chan none, .chan none, .chan none, .chan none, .chan none, .chan none, .chan none, .chan none, .chan none, .chan none, .chan none, .chan none, .chan none, .chan none, .chan none, .chan none, .chan none, .chan none, .chan none, .chan none, .chan none, .chan none, .chan none, .chan none, .chan none, .chan none, .chan none, .chan none, .chan none, .chan none, .chan none, .chan none, .chan none, .chan none, .chan none, .chan none, .chan none, .chan none, .chan none, .chan none, .chan none, .chan none, .chan none, .chan none, .chan none, .chan none, .chan none, .chan none, .chan none, .chan none, .chan none, .chan none, .chan none, .chan none, .chan none, .chan none, .chan none, .chan none, .chan none, .chan none, .chan none, .chan none, .chan none, .chan none, .chan none, .chan none, .chan none, .chan none, .chan none, .chan none, .chan none, .chan none, .chan none, .chan none, .chan none, .chan none, .chan none, .chan none, .chan none, .chan none, .chan none, .chan none, .chan none, .chan none, .chan none, .chan none, .chan none, .chan none, .chan none, .chan none, .chan none, .chan none, .chan none, .chan none, .chan none, .chan none, .chan none, .chan none, .chan none, .chan none, .chan none, .chan none, .chan none, .chan none, .chan none, .chan none, .chan none, .chan none, .chan none, .chan none, .chan none, .chan none, .chan none, .chan none, .chan none, .chan none, .chan none]) (n := (run t).length) rfl ⟨0, rfl, by omega, rfl, rfl⟩ ?_
        rintro q a L2 ⟨m, rfl, hm, hL, rfl⟩
        rw [hL]
        clear hL
        by_cases hmr : m < (run t).length
        · obtain ⟨d, hd1, hd2, hd3⟩ := run_go hmr
          have hsd : s[i + 1 + m]? = some d := by rw [← List.getElem?_drop, hu]; exact hd1
          have hlt : i + 1 + m < s.length := (List.getElem?_eq_some_iff.1 hsd).1
          have b1 : (!ileB ((s.length : Nat) : Int) ((i + 1 + m : Nat) : Int)) = true := by rw [ileB_eq]; simp; omega
          rcases Nat.eq_zero_or_pos m with h0 | h0
          · have b2 : ieqB ((i + 1 + m : Nat) : Int) ((i + 1 : Nat) : Int) = true := by rw [ieqB_eq, h0]; simp <;> omega
            refine yG ?_
            refine OS.call noGo rfl (fun _ => rfl) ((letter13_ct d).mono ?_)
            rintro u3 L3 ⟨rfl, hL⟩
            rw [hL, hd3 h0]
            clear hL
            refine ⟨_, rfl, ?_⟩
            refine yG ?_
            exact ⟨(run t).length - (m + 1), by omega, m + 1, rfl, by omega, rfl, rfl⟩
          · have b2 : ieqB ((i + 1 + m : Nat) : Int) ((i + 1 : Nat) : Int) = false := by rw [ieqB_eq]; simp; omega
            have b3 : (!ileB ((i + 1 + m : Nat) : Int) ((i + 1 : Nat) : Int)) = true := by rw [ileB_eq]; simp; omega
            refine yG ?_
            refine OS.call noGo rfl (fun _ => rfl) ((mark13_ct d).mono ?_)
            rintro u3 L3 ⟨rfl, hL⟩
            rw [hL, hd2]
            clear hL
            refine ⟨_, rfl, ?_⟩
            refine yG ?_
            exact ⟨(run t).length - (m + 1), by omega, m + 1, rfl, by omega, rfl, rfl⟩
        · obtain rfl : m = (run t).length := by omega
          by_cases hlt : i + 1 + (run t).length < s.length
          · obtain ⟨d, hsd⟩ := ext_list (l := s) (k := i + 1 + (run t).length) hlt
            have hud : t[(run t).length]? = some d := by rw [← hu, List.getElem?_drop, hu]; exact hsd
            obtain ⟨st0, st1⟩ := run_stop hud
            have b1 : (!ileB ((s.length : Nat) : Int) ((i + 1 + (run t).length : Nat) : Int)) = true := by rw [ileB_eq]; simp; omega
            rcases Nat.eq_zero_or_pos (run t).length with h0 | h0
            · have b2 : ieqB ((i + 1 + (run t).length : Nat) : Int) ((i + 1 : Nat) : Int) = true := by rw [ieqB_eq, h0]; simp <;> omega
              have b3 : (!ileB ((i + 1 + (run t).length : Nat) : Int) ((i + 1 : Nat) : Int)) = false := by rw [ileB_eq, h0]; simp <;> omega
              refine yG ?_
              refine OS.call noGo rfl (fun _ => rfl) ((letter13_ct d).mono ?_)
              rintro u3 L3 ⟨rfl, hL⟩
              rw [hL, st0 h0]
              clear hL
              refine ⟨_, rfl, ?_⟩
              refine yG ?_
              refine LS.exit ?_
              clear hlt hsd hud st0 st1 b1 b2 b3
              have t1 : (s.drop (i + 1)).take (i + 1 + (run t).length - (i + 1)) = run t := by rw [hu, show i + 1 + (run t).length - (i + 1) = (run t).length by omega]; exact hrt
              refine yG ?_
              refine OS.pure rfl (e_part (s := s) (l := i + 1) (u := i + 1 + (run t).length) rfl rfl rfl rfl bound_nat bound_nat rfl (by omega) (by omega)) rfl ?_
              rw [t1]
              by_cases hE : run t = []
              · have q1 : bytesEq (run t) [] = true := by rw [hE]; rfl
                rw [hmk, if_pos (.inl hE)] at hD
                have hsub : subst (Xp.look l) s = .error 4 := by unfold subst; rw [hD]; rfl
                rw [hsub]
                refine yG ?_
                exact ⟨rfl, gv_drop hg⟩
              · have q1 : bytesEq (run t) [] = false := by rw [beq_bytes]; simpa using hE
                by_cases h24 : 24 < (run t).length
                · have q2 : (!ileB (((run t).length : Nat) : Int) 24) = true := by rw [ileB_eq]; simp; omega
                  rw [hmk, if_pos (.inr h24)] at hD
                  have hsub : subst (Xp.look l) s = .error 4 := by unfold subst; rw [hD]; rfl
                  rw [hsub]
                  refine yG ?_
                  exact ⟨rfl, gv_drop hg⟩
                · have q2 : (!ileB (((run t).length : Nat) : Int) 24) = false := by rw [ileB_eq]; simp; omega
                  have hv' : SV 2 L' v l.length (fl l) := hv.mono hg.mem
                  have hEl : i + 1 + (run t).length ≤ s.length := by omega
                  have hb : t.drop ((run t).length) = s.drop (i + 1 + (run t).length) := by rw [← hu, List.drop_drop]
                  rw [hmk, if_neg (by rintro h; rcases h with h | h; exact hE h; exact h24 h)] at hD
                  simp only [hb] at hD
                  refine yG ?_
                  refine LS.loopJ [0, 1, 6, 7, 10, 11, 12, 13] (fun q a L2 => ∃ k : Nat, q = l.length - k ∧ k ≤ l.length ∧ L2 = L' ∧ a = [str s, v, .chan none, .chan none, .chan none, .chan none, ov, .int .i64 ((i + 1 + (run t).length : Nat) : Int), .chan none, .chan none, str (run t), .bool (Xp.look (l.take k) (run t)).isSome, str ((Xp.look (l.take k) (run t)).getD []), .int .i64 (k : Nat), .chan none, .chan none, .chan none, .chan none, .chan none, .chan none, .chan none, .chan none, .chan none, .chan none, .chan none, .chan none, .chan none, .chan none, .chan none, .chan none, .chan none, .chan none, .chan none, .chan none, .chan none, .chan none, .chan none, .chan none, .chan none, .chan none, .chan none, .chan none, .chan none, .chan none, .chan none, .chan none, .chan none, .chan none, .chan none, .chan none, .chan none, .chan none, .chan none, .chan none, .chan none, .chan none, .chan none, .chan none, .chan none, .chan none, .chan none, .chan none, .chan none, .chan none, .chan none, .chan none, .chan none, .chan none, .chan none, .chan none, .chan none, .chan none, .chan none, .chan none, .chan none, .chan none, .chan none, .chan none, .chan none, .chan none, .chan none, .chan none, .chan none, .chan none, .chan none, .chan none, .chan none, .chan none, .chan none, .chan none, .chan none, .chan none, .chan none, .chan none, .chan none, .chan none, .chan none, .chan none, .chan none, .chan none, .chan none, .chan none, .chan none, .chan none, .chan none, .chan none, .chan none, .chan none, .chan none, .chan none, .chan none, .chan none, .chan none, .chan none, .chan none, .chan none, .chan none, .chan none, .chan none, .chan none, .chan none, .chan none, .chan none, .chan none, .chan none, .chan none, .chan none, .chan none, .chan none, .chan none, .chan none, .chan none, .chan none, .chan none, .chan none, .chan none, .chan none, .chan none, .chan none, .chan none, .chan none, .chan none, .chan none, .chan none, .chan none, .chan none]) (n := l.length) rfl ⟨0, rfl, by omega, rfl, rfl⟩ ?_
                  rintro q a L2 ⟨k, rfl, hk, hL, rfl⟩
                  rw [hL]
                  clear hL
                  refine yG ?_
                  repeat refine LS.seq ?_
                  refine LS.cond rfl (fun hc3 => ?_) (fun hc3 => ?_)
                  · have hc3 := lt_of hc3
                    obtain ⟨p, hgk⟩ := ext_list (l := l) (k := k) (by omega)
                    have a0 : (fl l)[k * 2 + 0]? = some (str p.1) := by have := fl_at0 hgk; rwa [Nat.zero_add] at this
                    have a1 : (fl l)[k * 2 + 1]? = some (str p.2) := by have := fl_at1 hgk; rwa [Nat.zero_add] at this
                    have lk : Xp.look (l.take (k + 1)) (run t) = if p.1 = run t then some p.2 else Xp.look (l.take k) (run t) := by rw [take_one hgk]; exact look_snoc _ _ _ _
                    refine LS.skip ?_
                    refine yG ?_
                    refine OS.at (j := k) hv' (by omega) rfl rfl rfl rfl rfl rfl (fun r0 o0 row0 cs0 m0 c0 h0 k0 => ?_)
                    refine ⟨_, rfl, ?_⟩
                    refine yG ?_
                    refine OS.read rfl (e_loadm m0 c0 rfl rfl (part_one rfl (h0 0 _ (by decide) a0))) rfl ?_
                    by_cases hp : p.1 = run t
                    · have q5 : bytesEq p.1 (run t) = true := by rw [beq_bytes, hp]; simp
                      rw [if_pos hp] at lk
                      refine yG ?_
                      refine OS.at (j := k) hv' (by omega) rfl rfl rfl rfl rfl rfl (fun r1 o1 row1 cs1 m1 c1 h1 k1 => ?_)
                      refine ⟨_, rfl, ?_⟩
                      refine yG ?_
                      refine OS.read rfl (e_loadm m1 c1 rfl rfl (part_one rfl (h1 1 _ (by decide) a1))) rfl ?_
                      refine yG ?_
                      exact ⟨l.length - (k + 1), by omega, k + 1, rfl, by omega, rfl, by rw [lk]; rfl⟩
                    · have q5 : bytesEq p.1 (run t) = false := by rw [beq_bytes]; simpa using hp
                      rw [if_neg hp] at lk
                      refine yG ?_
                      exact ⟨l.length - (k + 1), by omega, k + 1, rfl, by omega, rfl, by rw [lk]; rfl⟩
                  · have hc3 := nlt_of hc3
                    obtain rfl : k = l.length := by omega
                    rw [List.take_length]
                    refine LS.exit ?_
                    cases hlk : Xp.look l (run t) with
                    | none =>
                      rw [hlk] at hD
                      have hsub : subst (Xp.look l) s = .error 63 := by unfold subst; rw [hD]; rfl
                      rw [hsub]
                      refine yG ?_
                      exact ⟨rfl, gv_drop hg⟩
                    | some w =>
                      have hwl := hw _ (look_mem hlk)
                      have hwl : w.length ≤ 1000000 := hwl
                      rw [hlk] at hD
                      simp only [] at hD
                      rw [pre_pre] at hD
                      have hal2 : (acc ++ w).length ≤ (i + 1 + (run t).length) * 1000000 := by rw [List.length_append]; omega
                      rcases hg with ⟨rfl, ha0, hb0, rfl⟩ | ⟨r, rfl, hgl, rfl⟩
                      · obtain rfl : acc = [] := List.eq_nil_of_length_eq_zero ha0
                        by_cases hw0 : w = []
                        · subst hw0
                          refine yG ?_
                          refine OS.read rfl (e_appendNil_txt rfl rfl rfl) rfl ?_
                          refine yG ?_
                          exact ⟨s.length - (i + 1 + (run t).length), by omega, i + 1 + (run t).length, [], _, rfl, by omega, by simp, hD, GV.nil, rfl⟩
                        · have hpos : 0 < w.length := by cases w with
                            | nil => exact absurd rfl hw0
                            | cons => simp
                          refine yG ?_
                          refine OS.fresh rfl (e_append0_txt (bts := 1) (s := w) (n := w.length) rfl rfl rfl rfl (by omega) (by omega) hpos) (fun _ => rfl) (fun r2 => ?_)
                          refine yG ?_
                          exact ⟨s.length - (i + 1 + (run t).length), by omega, i + 1 + (run t).length, w, _, rfl, by omega, by simpa using hal2, hD, GV.of (by rw [byteCells_len]; omega), rfl⟩
                      · refine yG ?_
                        refine OS.fresh rfl (e_append_txt 0 (bts := 1) (s := w) (n := w.length) (len := acc.length) rfl rfl rfl rfl (by omega) (by omega) rfl (cut_all (by rw [byteCells_len]; omega)) rfl) (fun _ => rfl) (fun r2 => ?_)
                        refine yG ?_
                        exact ⟨s.length - (i + 1 + (run t).length), by omega, i + 1 + (run t).length, acc ++ w, _, rfl, by omega, hal2, hD, gv_app, rfl⟩
            · have b2 : ieqB ((i + 1 + (run t).length : Nat) : Int) ((i + 1 : Nat) : Int) = false := by rw [ieqB_eq]; simp; omega
              have b3 : (!ileB ((i + 1 + (run t).length : Nat) : Int) ((i + 1 : Nat) : Int)) = true := by rw [ileB_eq]; simp; omega
              refine yG ?_
              refine OS.call noGo rfl (fun _ => rfl) ((mark13_ct d).mono ?_)
              rintro u3 L3 ⟨rfl, hL⟩
              rw [hL, st1 (by omega)]
              clear hL
              refine ⟨_, rfl, ?_⟩
              refine yG ?_
              refine LS.exit ?_
              clear hlt hsd hud st0 st1 b1 b2 b3
              have t1 : (s.drop (i + 1)).take (i + 1 + (run t).length - (i + 1)) = run t := by rw [hu, show i + 1 + (run t).length - (i + 1) = (run t).length by omega]; exact hrt
              refine yG ?_
              refine OS.pure rfl (e_part (s := s) (l := i + 1) (u := i + 1 + (run t).length) rfl rfl rfl rfl bound_nat bound_nat rfl (by omega) (by omega)) rfl ?_
              rw [t1]
              by_cases hE : run t = []
              · have q1 : bytesEq (run t) [] = true := by rw [hE]; rfl
                rw [hmk, if_pos (.inl hE)] at hD
                have hsub : subst (Xp.look l) s = .error 4 := by unfold subst; rw [hD]; rfl
                rw [hsub]
                refine yG ?_
                exact ⟨rfl, gv_drop hg⟩
              · have q1 : bytesEq (run t) [] = false := by rw [beq_bytes]; simpa using hE
                by_cases h24 : 24 < (run t).length
                · have q2 : (!ileB (((run t).length : Nat) : Int) 24) = true := by rw [ileB_eq]; simp; omega
                  rw [hmk, if_pos (.inr h24)] at hD
                  have hsub : subst (Xp.look l) s = .error 4 := by unfold subst; rw [hD]; rfl
                  rw [hsub]
                  refine yG ?_
                  exact ⟨rfl, gv_drop hg⟩
                · have q2 : (!ileB (((run t).length : Nat) : Int) 24) = false := by rw [ileB_eq]; simp; omega
                  have hv' : SV 2 L' v l.length (fl l) := hv.mono hg.mem
                  have hEl : i + 1 + (run t).length ≤ s.length := by omega
                  have hb : t.drop ((run t).length) = s.drop (i + 1 + (run t).length) := by rw [← hu, List.drop_drop]
                  rw [hmk, if_neg (by rintro h; rcases h with h | h; exact hE h; exact h24 h)] at hD
                  simp only [hb] at hD
                  refine yG ?_
                  refine LS.loopJ [0, 1, 6, 7, 10, 11, 12, 13] (fun q a L2 => ∃ k : Nat, q = l.length - k ∧ k ≤ l.length ∧ L2 = L' ∧ a = [str s, v, .chan none, .chan none, .chan none, .chan none, ov, .int .i64 ((i + 1 + (run t).length : Nat) : Int), .chan none, .chan none, str (run t), .bool (Xp.look (l.take k) (run t)).isSome, str ((Xp.look (l.take k) (run t)).getD []), .int .i64 (k : Nat), .chan none, .chan none, .chan none, .chan none, .chan none, .chan none, .chan none, .chan none, .chan none, .chan none, .chan none, .chan none, .chan none, .chan none, .chan none, .chan none, .chan none, .chan none, .chan none, .chan none, .chan none, .chan none, .chan none, .chan none, .chan none, .chan none, .chan none, .chan none, .chan none, .chan none, .chan none, .chan none, .chan none, .chan none, .chan none, .chan none, .chan none, .chan none, .chan none, .chan none, .chan none, .chan none, .chan none, .chan none, .chan none, .chan none, .chan none, .chan none, .chan none, .chan none, .chan none, .chan none, .chan none, .chan none, .chan none, .chan none, .chan none, .chan none, .chan none, .chan none, .chan none, .chan none, .chan none, .chan none, .chan none, .chan none, .chan none, .chan none, .chan none, .chan none, .chan none, .chan none, .chan none, .chan none, .chan none, .chan none, .chan none, .chan none, .chan none, .chan none, .chan none, .chan none, .chan none, .chan none, .chan none, .chan none, .chan none, .chan none, .chan none, .chan none, .chan none, .chan none, .chan none, .chan none, .chan none, .chan none, .chan none, .chan none, .chan none, .chan none, .chan none, .chan none, .chan none, .chan none, .chan none, .chan none, .chan none, .chan none, .chan none, .chan none, .chan none, .chan none, .chan none, .chan none, .chan none, .chan none, .chan none, .chan none, .chan none, .chan none, .chan none, .chan none, .chan none, .chan none, .chan none, .chan none, .chan none, .chan none, .chan none, .chan none, .chan none, .chan none]) (n := l.length) rfl ⟨0, rfl, by omega, rfl, rfl⟩ ?_
                  rintro q a L2 ⟨k, rfl, hk, hL, rfl⟩
                  rw [hL]
                  clear hL
                  refine yG ?_
                  repeat refine LS.seq ?_
                  refine LS.cond rfl (fun hc3 => ?_) (fun hc3 => ?_)
                  · have hc3 := lt_of hc3
                    obtain ⟨p, hgk⟩ := ext_list (l := l) (k := k) (by omega)
                    have a0 : (fl l)[k * 2 + 0]? = some (str p.1) := by have := fl_at0 hgk; rwa [Nat.zero_add] at this
                    have a1 : (fl l)[k * 2 + 1]? = some (str p.2) := by have := fl_at1 hgk; rwa [Nat.zero_add] at this
                    have lk : Xp.look (l.take (k + 1)) (run t) = if p.1 = run t then some p.2 else Xp.look (l.take k) (run t) := by rw [take_one hgk]; exact look_snoc _ _ _ _
                    refine LS.skip ?_
                    refine yG ?_
                    refine OS.at (j := k) hv' (by omega) rfl rfl rfl rfl rfl rfl (fun r0 o0 row0 cs0 m0 c0 h0 k0 => ?_)
                    refine ⟨_, rfl, ?_⟩
                    refine yG ?_
                    refine OS.read rfl (e_loadm m0 c0 rfl rfl (part_one rfl (h0 0 _ (by decide) a0))) rfl ?_
                    by_cases hp : p.1 = run t
                    · have q5 : bytesEq p.1 (run t) = true := by rw [beq_bytes, hp]; simp
                      rw [if_pos hp] at lk
                      refine yG ?_
                      refine OS.at (j := k) hv' (by omega) rfl rfl rfl rfl rfl rfl (fun r1 o1 row1 cs1 m1 c1 h1 k1 => ?_)
                      refine ⟨_, rfl, ?_⟩
                      refine yG ?_
                      refine OS.read rfl (e_loadm m1 c1 rfl rfl (part_one rfl (h1 1 _ (by decide) a1))) rfl ?_
                      refine yG ?_
                      exact ⟨l.length - (k + 1), by omega, k + 1, rfl, by omega, rfl, by rw [lk]; rfl⟩
                    · have q5 : bytesEq p.1 (run t) = false := by rw [beq_bytes]; simpa using hp
                      rw [if_neg hp] at lk
                      refine yG ?_
                      exact ⟨l.length - (k + 1), by omega, k + 1, rfl, by omega, rfl, by rw [lk]; rfl⟩
                  · have hc3 := nlt_of hc3
                    obtain rfl : k = l.length := by omega
                    rw [List.take_length]
                    refine LS.exit ?_
                    cases hlk : Xp.look l (run t) with
                    | none =>
                      rw [hlk] at hD
                      have hsub : subst (Xp.look l) s = .error 63 := by unfold subst; rw [hD]; rfl
                      rw [hsub]
                      refine yG ?_
                      exact ⟨rfl, gv_drop hg⟩
                    | some w =>
                      have hwl := hw _ (look_mem hlk)
                      have hwl : w.length ≤ 1000000 := hwl
                      rw [hlk] at hD
                      simp only [] at hD
                      rw [pre_pre] at hD
                      have hal2 : (acc ++ w).length ≤ (i + 1 + (run t).length) * 1000000 := by rw [List.length_append]; omega
                      rcases hg with ⟨rfl, ha0, hb0, rfl⟩ | ⟨r, rfl, hgl, rfl⟩
                      · obtain rfl : acc = [] := List.eq_nil_of_length_eq_zero ha0
                        by_cases hw0 : w = []
                        · subst hw0
                          refine yG ?_
                          refine OS.read rfl (e_appendNil_txt rfl rfl rfl) rfl ?_
                          refine yG ?_
                          exact ⟨s.length - (i + 1 + (run t).length), by omega, i + 1 + (run t).length, [], _, rfl, by omega, by simp, hD, GV.nil, rfl⟩
                        · have hpos : 0 < w.length := by cases w with
                            | nil => exact absurd rfl hw0
                            | cons => simp
                          refine yG ?_
                          refine OS.fresh rfl (e_append0_txt (bts := 1) (s := w) (n := w.length) rfl rfl rfl rfl (by omega) (by omega) hpos) (fun _ => rfl) (fun r2 => ?_)
                          refine yG ?_
                          exact ⟨s.length - (i + 1 + (run t).length), by omega, i + 1 + (run t).length, w, _, rfl, by omega, by simpa using hal2, hD, GV.of (by rw [byteCells_len]; omega), rfl⟩
                      · refine yG ?_
                        refine OS.fresh rfl (e_append_txt 0 (bts := 1) (s := w) (n := w.length) (len := acc.length) rfl rfl rfl rfl (by omega) (by omega) rfl (cut_all (by rw [byteCells_len]; omega)) rfl) (fun _ => rfl) (fun r2 => ?_)
                        refine yG ?_
                        exact ⟨s.length - (i + 1 + (run t).length), by omega, i + 1 + (run t).length, acc ++ w, _, rfl, by omega, hal2, hD, gv_app, rfl⟩
          · have b1 : (!ileB ((s.length : Nat) : Int) ((i + 1 + (run t).length : Nat) : Int)) = false := by rw [ileB_eq]; simp; omega
            refine yG ?_
            refine LS.exit ?_
            clear hlt b1
            have t1 : (s.drop (i + 1)).take (i + 1 + (run t).length - (i + 1)) = run t := by rw [hu, show i + 1 + (run t).length - (i + 1) = (run t).length by omega]; exact hrt
            refine yG ?_
            refine OS.pure rfl (e_part (s := s) (l := i + 1) (u := i + 1 + (run t).length) rfl rfl rfl rfl bound_nat bound_nat rfl (by omega) (by omega)) rfl ?_
            rw [t1]
            by_cases hE : run t = []
            · have q1 : bytesEq (run t) [] = true := by rw [hE]; rfl
              rw [hmk, if_pos (.inl hE)] at hD
              have hsub : subst (Xp.look l) s = .error 4 := by unfold subst; rw [hD]; rfl
              rw [hsub]
              refine yG ?_
              exact ⟨rfl, gv_drop hg⟩
            · have q1 : bytesEq (run t) [] = false := by rw [beq_bytes]; simpa using hE
              by_cases h24 : 24 < (run t).length
              · have q2 : (!ileB (((run t).length : Nat) : Int) 24) = true := by rw [ileB_eq]; simp; omega
                rw [hmk, if_pos (.inr h24)] at hD
                have hsub : subst (Xp.look l) s = .error 4 := by unfold subst; rw [hD]; rfl
                rw [hsub]
                refine yG ?_
                exact ⟨rfl, gv_drop hg⟩
              · have q2 : (!ileB (((run t).length : Nat) : Int) 24) = false := by rw [ileB_eq]; simp; omega
                have hv' : SV 2 L' v l.length (fl l) := hv.mono hg.mem
                have hEl : i + 1 + (run t).length ≤ s.length := by omega
                have hb : t.drop ((run t).length) = s.drop (i + 1 + (run t).length) := by rw [← hu, List.drop_drop]
                rw [hmk, if_neg (by rintro h; rcases h with h | h; exact hE h; exact h24 h)] at hD
                simp only [hb] at hD
                refine yG ?_
                refine LS.loopJ [0, 1, 6, 7, 10, 11, 12, 13] (fun q a L2 => ∃ k : Nat, q = l.length - k ∧ k ≤ l.length ∧ L2 = L' ∧ a = [str s, v, .chan none, .chan none, .chan none, .chan none, ov, .int .i64 ((i + 1 + (run t).length : Nat) : Int), .chan none, .chan none, str (run t), .bool (Xp.look (l.take k) (run t)).isSome, str ((Xp.look (l.take k) (run t)).getD []), .int .i64 (k : Nat), .chan none, .chan none, .chan none, .chan none, .chan none, .chan none, .chan none, .chan none, .chan none, .chan none, .chan none, .chan none, .chan none, .chan none, .chan none, .chan none, .chan none, .chan none, .chan none, .chan none, .chan none, .chan none, .chan none, .chan none, .chan none, .chan none, .chan none, .chan none, .chan none, .chan none, .chan none, .chan none, .chan none, .chan none, .chan none, .chan none, .chan none, .chan none, .chan none, .chan none, .chan none, .chan none, .chan none, .chan none, .chan none, .chan none, .chan none, .chan none, .chan none, .chan none, .chan none, .chan none, .chan none, .chan none, .chan none, .chan none, .chan none, .chan none, .chan none, .chan none, .chan none, .chan none, .chan none, .chan none, .chan none, .chan none, .chan none, .chan none, .chan none, .chan none, .chan none, .chan none, .chan none, .chan none, .chan none, .chan none, .chan none, .chan none, .chan none, .chan none, .chan none, .chan none, .chan none, .chan none, .chan none, .chan none, .chan none, .chan none, .chan none, .chan none, .chan none, .chan none, .chan none, .chan none, .chan none, .chan none, .chan none, .chan none, .chan none, .chan none, .chan none, .chan none, .chan none, .chan none, .chan none, .chan none, .chan none, .chan none, .chan none, .chan none, .chan none, .chan none, .chan none, .chan none, .chan none, .chan none, .chan none, .chan none, .chan none, .chan none, .chan none, .chan none, .chan none, .chan none, .chan none, .chan none, .chan none, .chan none, .chan none, .chan none, .chan none, .chan none]) (n := l.length) rfl ⟨0, rfl, by omega, rfl, rfl⟩ ?_
                rintro q a L2 ⟨k, rfl, hk, hL, rfl⟩
                rw [hL]
                clear hL
                refine yG ?_
                repeat refine LS.seq ?_
                refine LS.cond rfl (fun hc3 => ?_) (fun hc3 => ?_)
                · have hc3 := lt_of hc3
                  obtain ⟨p, hgk⟩ := ext_list (l := l) (k := k) (by omega)
                  have a0 : (fl l)[k * 2 + 0]? = some (str p.1) := by have := fl_at0 hgk; rwa [Nat.zero_add] at this
                  have a1 : (fl l)[k * 2 + 1]? = some (str p.2) := by have := fl_at1 hgk; rwa [Nat.zero_add] at this
                  have lk : Xp.look (l.take (k + 1)) (run t) = if p.1 = run t then some p.2 else Xp.look (l.take k) (run t) := by rw [take_one hgk]; exact look_snoc _ _ _ _
                  refine LS.skip ?_
                  refine yG ?_
                  refine OS.at (j := k) hv' (by omega) rfl rfl rfl rfl rfl rfl (fun r0 o0 row0 cs0 m0 c0 h0 k0 => ?_)
                  refine ⟨_, rfl, ?_⟩
                  refine yG ?_
                  refine OS.read rfl (e_loadm m0 c0 rfl rfl (part_one rfl (h0 0 _ (by decide) a0))) rfl ?_
                  by_cases hp : p.1 = run t
                  · have q5 : bytesEq p.1 (run t) = true := by rw [beq_bytes, hp]; simp
                    rw [if_pos hp] at lk
                    refine yG ?_
                    refine OS.at (j := k) hv' (by omega) rfl rfl rfl rfl rfl rfl (fun r1 o1 row1 cs1 m1 c1 h1 k1 => ?_)
                    refine ⟨_, rfl, ?_⟩
                    refine yG ?_
                    refine OS.read rfl (e_loadm m1 c1 rfl rfl (part_one rfl (h1 1 _ (by decide) a1))) rfl ?_
                    refine yG ?_
                    exact ⟨l.length - (k + 1), by omega, k + 1, rfl, by omega, rfl, by rw [lk]; rfl⟩
                  · have q5 : bytesEq p.1 (run t) = false := by rw [beq_bytes]; simpa using hp
                    rw [if_neg hp] at lk
                    refine yG ?_
                    exact ⟨l.length - (k + 1), by omega, k + 1, rfl, by omega, rfl, by rw [lk]; rfl⟩
                · have hc3 := nlt_of hc3
                  obtain rfl : k = l.length := by omega
                  rw [List.take_length]
                  refine LS.exit ?_
                  cases hlk : Xp.look l (run t) with
                  | none =>
                    rw [hlk] at hD
                    have hsub : subst (Xp.look l) s = .error 63 := by unfold subst; rw [hD]; rfl
                    rw [hsub]
                    refine yG ?_
                    exact ⟨rfl, gv_drop hg⟩
                  | some w =>
                    have hwl := hw _ (look_mem hlk)
                    have hwl : w.length ≤ 1000000 := hwl
                    rw [hlk] at hD
                    simp only [] at hD
                    rw [pre_pre] at hD
                    have hal2 : (acc ++ w).length ≤ (i + 1 + (run t).length) * 1000000 := by rw [List.length_append]; omega
                    rcases hg with ⟨rfl, ha0, hb0, rfl⟩ | ⟨r, rfl, hgl, rfl⟩
                    · obtain rfl : acc = [] := List.eq_nil_of_length_eq_zero ha0
                      by_cases hw0 : w = []
                      · subst hw0
                        refine yG ?_
                        refine OS.read rfl (e_appendNil_txt rfl rfl rfl) rfl ?_
                        refine yG ?_
                        exact ⟨s.length - (i + 1 + (run t).length), by omega, i + 1 + (run t).length, [], _, rfl, by omega, by simp, hD, GV.nil, rfl⟩
                      · have hpos : 0 < w.length := by cases w with
                          | nil => exact absurd rfl hw0
                          | cons => simp
                        refine yG ?_
                        refine OS.fresh rfl (e_append0_txt (bts := 1) (s := w) (n := w.length) rfl rfl rfl rfl (by omega) (by omega) hpos) (fun _ => rfl) (fun r2 => ?_)
                        refine yG ?_
                        exact ⟨s.length - (i + 1 + (run t).length), by omega, i + 1 + (run t).length, w, _, rfl, by omega, by simpa using hal2, hD, GV.of (by rw [byteCells_len]; omega), rfl⟩
                    · refine yG ?_
                      refine OS.fresh rfl (e_append_txt 0 (bts := 1) (s := w) (n := w.length) (len := acc.length) rfl rfl rfl rfl (by omega) (by omega) rfl (cut_all (by rw [byteCells_len]; omega)) rfl) (fun _ => rfl) (fun r2 => ?_)
                      refine yG ?_
                      exact ⟨s.length - (i + 1 + (run t).length), by omega, i + 1 + (run t).length, acc ++ w, _, rfl, by omega, hal2, hD, gv_app, rfl⟩
      | cons d t' =>
        obtain ⟨t, htt⟩ : ∃ t : W, t = d :: t' := ⟨_, rfl⟩
        have hu : s.drop (i + 1) = t := by rw [ht, htt]
        have hil : i + 1 < s.length := by
          have := congrArg List.length ht
          simp at this; omega
        have bA : (!ileB ((s.length : Nat) : Int) ((i + 1 : Nat) : Int)) = true := by rw [ileB_eq]; simp; omega
        have hdk : s[i + 1]? = some d := by rw [← List.getElem?_drop (i := i + 1) (j := 0), ht]; rfl
        by_cases hd36 : d = 36
        · have bB : ieqB (d.toNat : Nat) 36 = true := by rw [cmp_u8 (k := 36) d 36 rfl, hd36]; rfl
          have hmk : Xp.mark (s.drop (i + 1)) = some (none, s.drop (i + 1 + 1)) := by
            have e := drop1 hdk
            rw [e, hd36]; rfl
          rw [hmk] at hD
          simp only [] at hD
          rw [pre_pre] at hD
          refine yG ?_
          refine OS.fresh rfl (e_new (fun _ => rfl) rfl) (fun _ => rfl) (fun rn => ?_)
          refine OS.fresh rfl (e_appendGV [_] (m := 1) (sz := 1) (bts := 1) hg (SV.row (sz := 1) (n := 1) (List.mem_cons_self ..) rfl) (by omega) rfl rfl rfl rfl (by omega) (by omega)) (fun _ => rfl) (fun r2 => ?_)
          refine OS.sub (Sub.drop 1 rfl) ?_
          refine yG ?_
          refine LS.exit ?_
          exact ⟨s.length - (i + 1 + 1), by omega, i + 1 + 1, acc ++ [36], _, rfl, by omega, by simp; omega, hD, gv_app (w := [36]), rfl⟩
        have bB : ieqB (d.toNat : Nat) 36 = false := by rw [cmp_u8 (k := 36) d 36 rfl]; simpa using hd36
        by_cases hd123 : d = 123
        · have bC : ieqB (d.toNat : Nat) 123 = true := by rw [cmp_u8 (k := 123) d 123 rfl, hd123]; rfl
          obtain ⟨t2, ht2⟩ : ∃ t2 : W, t2 = s.drop (i + 1 + 1) := ⟨_, rfl⟩
          have hmk : Xp.mark t = if run t2 = [] ∨ 24 < (run t2).length ∨ t2[(run t2).length]? ≠ some 125 then none else some (some (run t2), t2.drop ((run t2).length + 1)) := by
            have e := drop1 hdk
            rw [← hu, e, hd123, ← ht2]; exact mark_brace
          rw [hu] at hD
          have hu : s.drop (i + 1 + 1) = t2 := ht2.symm
          have hil : i + 1 + 1 ≤ s.length := by omega
          clear ht
          obtain ⟨hrt, hrl⟩ := run_take t2
          have hul : s.length = i + 1 + 1 + t2.length := by rw [← hu, List.length_drop]; omega
          refine yG ?_
          refine LS.loopJ [0, 1, 6, 7, 8, 9] (fun q a L2 => ∃ m : Nat, q = (run t2).length - m ∧ m ≤ (run t2).length ∧ L2 = L' ∧ a = [str s, v, .chan none, .chan none, .chan none, .chan none, ov, .int .i64 ((i + 1 + 1 + m : Nat) : Int), .bool true, .int .i64 ((i + 1 + 1 : Nat) : Int), .chan none, .chan none, .chan none, .chan none, .chan none, .chan none, .chan none, .chan none, .chan none, .chan none, .chan none, .chan none, .chan none, .chan none, .chan none, .chan none, .chan none, .chan none, .chan none, .chan none, .chan none, .chan none, .chan none, .chan none, .chan none, .chan none, .chan none, .chan none, .chan none, .chan none, .chan none, .chan none, .chan none, .chan none, .chan none, .chan none, .chan none, .chan none, .chan none, .chan none, .chan none, .chan none, .chan none, .chan none, .chan none, .chan none, .chan none, .chan none, .chan none, .chan none, .chan none, .chan none, .chan none, .chan none, .chan none, .chan none, .chan none, .chan none, .chan none, .chan none, .chan none, .chan none, .chan none, .chan none, .chan none, .chan none, .chan none, .chan none, .chan none, .chan none, .chan none, .chan none, .chan none, .chan none, .chan none, .chan none, .chan none, .chan none, .chan none, .chan none, .chan none, .chan none, .chan none, .chan none, .chan none, .chan none, .chan none, .chan none, .chan none, .chan none, .chan none, .chan none, .chan none, .chan none, .chan none, .chan none, .chan none, .chan none, .chan none, .chan none, .chan none, .chan none, .chan none, .chan none, .chan none, .chan none, .chan none, .chan none, .chan none, .chan none, .chan none, .chan none, .chan none, .chan none, .chan none, .chan none, .chan none, .chan none, .chan none, .chan none, .chan none, .chan none, .chan none, .chan none, .chan none, .chan none, .chan none, .chan none, .chan none, .chan none, .chan none, .chan none, .chan none, .chan none, .chan none, .chan none]) (n := (run t2).length) rfl ⟨0, rfl, by omega, rfl, rfl⟩ ?_
          rintro q a L2 ⟨m, rfl, hm, hL, rfl⟩
          rw [hL]
          clear hL
          by_cases hmr : m < (run t2).length
          · obtain ⟨d, hd1, hd2, hd3⟩ := run_go hmr
            have hsd : s[i + 1 + 1 + m]? = some d := by rw [← List.getElem?_drop, hu]; exact hd1
            have hlt : i + 1 + 1 + m < s.length := (List.getElem?_eq_some_iff.1 hsd).1
            have b1 : (!ileB ((s.length : Nat) : Int) ((i + 1 + 1 + m : Nat) : Int)) = true := by rw [ileB_eq]; simp; omega
            rcases Nat.eq_zero_or_pos m with h0 | h0
            · have b2 : ieqB ((i + 1 + 1 + m : Nat) : Int) ((i + 1 + 1 : Nat) : Int) = true := by rw [ieqB_eq, h0]; simp <;> omega
              refine yG ?_
              refine OS.call noGo rfl (fun _ => rfl) ((letter13_ct d).mono ?_)
              rintro u3 L3 ⟨rfl, hL⟩
              rw [hL, hd3 h0]
              clear hL
              refine ⟨_, rfl, ?_⟩
              refine yG ?_
              exact ⟨(run t2).length - (m + 1), by omega, m + 1, rfl, by omega, rfl, rfl⟩
            · have b2 : ieqB ((i + 1 + 1 + m : Nat) : Int) ((i + 1 + 1 : Nat) : Int) = false := by rw [ieqB_eq]; simp; omega
              have b3 : (!ileB ((i + 1 + 1 + m : Nat) : Int) ((i + 1 + 1 : Nat) : Int)) = true := by rw [ileB_eq]; simp; omega
              refine yG ?_
              refine OS.call noGo rfl (fun _ => rfl) ((mark13_ct d).mono ?_)
              rintro u3 L3 ⟨rfl, hL⟩
              rw [hL, hd2]
              clear hL
              refine ⟨_, rfl, ?_⟩
              refine yG ?_
              exact ⟨(run t2).length - (m + 1), by omega, m + 1, rfl, by omega, rfl, rfl⟩
          · obtain rfl : m = (run t2).length := by omega
            by_cases hlt : i + 1 + 1 + (run t2).length < s.length
            · obtain ⟨d, hsd⟩ := ext_list (l := s) (k := i + 1 + 1 + (run t2).length) hlt
              have hud : t2[(run t2).length]? = some d := by rw [← hu, List.getElem?_drop, hu]; exact hsd
              obtain ⟨st0, st1⟩ := run_stop hud
              have b1 : (!ileB ((s.length : Nat) : Int) ((i + 1 + 1 + (run t2).length : Nat) : Int)) = true := by rw [ileB_eq]; simp; omega
              rcases Nat.eq_zero_or_pos (run t2).length with h0 | h0
              · have b2 : ieqB ((i + 1 + 1 + (run t2).length : Nat) : Int) ((i + 1 + 1 : Nat) : Int) = true := by rw [ieqB_eq, h0]; simp <;> omega
                have b3 : (!ileB ((i + 1 + 1 + (run t2).length : Nat) : Int) ((i + 1 + 1 : Nat) : Int)) = false := by rw [ileB_eq, h0]; simp <;> omega
                refine yG ?_
                refine OS.call noGo rfl (fun _ => rfl) ((letter13_ct d).mono ?_)
                rintro u3 L3 ⟨rfl, hL⟩
                rw [hL, st0 h0]
                clear hL
                refine ⟨_, rfl, ?_⟩
                refine yG ?_
                refine LS.exit ?_
                clear hlt hsd hud st0 st1 b1 b2 b3
                have t1 : (s.drop (i + 1 + 1)).take (i + 1 + 1 + (run t2).length - (i + 1 + 1)) = run t2 := by rw [hu, show i + 1 + 1 + (run t2).length - (i + 1 + 1) = (run t2).length by omega]; exact hrt
                refine yG ?_
                refine OS.pure rfl (e_part (s := s) (l := i + 1 + 1) (u := i + 1 + 1 + (run t2).length) rfl rfl rfl rfl bound_nat bound_nat rfl (by omega) (by omega)) rfl ?_
                rw [t1]
                by_cases hE : run t2 = []
                · have q1 : bytesEq (run t2) [] = true := by rw [hE]; rfl
                  rw [hmk, if_pos (.inl hE)] at hD
                  have hsub : subst (Xp.look l) s = .error 4 := by unfold subst; rw [hD]; rfl
                  rw [hsub]
                  refine yG ?_
                  exact ⟨rfl, gv_drop hg⟩
                · have q1 : bytesEq (run t2) [] = false := by rw [beq_bytes]; simpa using hE
                  by_cases h24 : 24 < (run t2).length
                  · have q2 : (!ileB (((run t2).length : Nat) : Int) 24) = true := by rw [ileB_eq]; simp; omega
                    rw [hmk, if_pos (.inr (.inl h24))] at hD
                    have hsub : subst (Xp.look l) s = .error 4 := by unfold subst; rw [hD]; rfl
                    rw [hsub]
                    refine yG ?_
                    exact ⟨rfl, gv_drop hg⟩
                  · have q2 : (!ileB (((run t2).length : Nat) : Int) 24) = false := by rw [ileB_eq]; simp; omega
                    by_cases hlt : i + 1 + 1 + (run t2).length < s.length
                    · obtain ⟨d, hsd⟩ := ext_list (l := s) (k := i + 1 + 1 + (run t2).length) hlt
                      have hud : t2[(run t2).length]? = some d := by rw [← hu, List.getElem?_drop]; rw [hu]; exact hsd
                      have q3 : ileB ((s.length : Nat) : Int) ((i + 1 + 1 + (run t2).length : Nat) : Int) = false := by rw [ileB_eq]; simp; omega
                      by_cases h125 : d = 125
                      · have q4 : (!ieqB (d.toNat : Nat) 125) = false := by rw [cmp_u8 (k := 125) d 125 rfl, h125]; rfl
                        have hsd := hud
                        have hv' : SV 2 L' v l.length (fl l) := hv.mono hg.mem
                        have hEl : i + 1 + 1 + (run t2).length + 1 ≤ s.length := by omega
                        have hb : t2.drop ((run t2).length + 1) = s.drop (i + 1 + 1 + (run t2).length + 1) := by rw [← hu, List.drop_drop]; congr 1
                        rw [hmk, if_neg (by rintro h; rcases h with h | h | h; exact hE h; exact h24 h; exact h (by rw [hsd, h125]))] at hD
                        simp only [hb] at hD
                        refine yG ?_
                        refine LS.loopJ [0, 1, 6, 7, 10, 11, 12, 13] (fun q a L2 => ∃ k : Nat, q = l.length - k ∧ k ≤ l.length ∧ L2 = L' ∧ a = [str s, v, .chan none, .chan none, .chan none, .chan none, ov, .int .i64 ((i + 1 + 1 + (run t2).length + 1 : Nat) : Int), .chan none, .chan none, str (run t2), .bool (Xp.look (l.take k) (run t2)).isSome, str ((Xp.look (l.take k) (run t2)).getD []), .int .i64 (k : Nat), .chan none, .chan none, .chan none, .chan none, .chan none, .chan none, .chan none, .chan none, .chan none, .chan none, .chan none, .chan none, .chan none, .chan none, .chan none, .chan none, .chan none, .chan none, .chan none, .chan none, .chan none, .chan none, .chan none, .chan none, .chan none, .chan none, .chan none, .chan none, .chan none, .chan none, .chan none, .chan none, .chan none, .chan none, .chan none, .chan none, .chan none, .chan none, .chan none, .chan none, .chan none, .chan none, .chan none, .chan none, .chan none, .chan none, .chan none, .chan none, .chan none, .chan none, .chan none, .chan none, .chan none, .chan none, .chan none, .chan none, .chan none, .chan none, .chan none, .chan none, .chan none, .chan none, .chan none, .chan none, .chan none, .chan none, .chan none, .chan none, .chan none, .chan none, .chan none, .chan none, .chan none, .chan none, .chan none, .chan none, .chan none, .chan none, .chan none, .chan none, .chan none, .chan none, .chan none, .chan none, .chan none, .chan none, .chan none, .chan none, .chan none, .chan none, .chan none, .chan none, .chan none, .chan none, .chan none, .chan none, .chan none, .chan none, .chan none, .chan none, .chan none, .chan none, .chan none, .chan none, .chan none, .chan none, .chan none, .chan none, .chan none, .chan none, .chan none, .chan none, .chan none, .chan none, .chan none, .chan none, .chan none, .chan none, .chan none, .chan none, .chan none, .chan none, .chan none, .chan none, .chan none, .chan none, .chan none, .chan none, .chan none, .chan none, .chan none, .chan none]) (n := l.length) rfl ⟨0, rfl, by omega, rfl, rfl⟩ ?_
                        rintro q a L2 ⟨k, rfl, hk, hL, rfl⟩
                        rw [hL]
                        clear hL
                        refine yG ?_
                        repeat refine LS.seq ?_
                        refine LS.cond rfl (fun hc3 => ?_) (fun hc3 => ?_)
                        · have hc3 := lt_of hc3
                          obtain ⟨p, hgk⟩ := ext_list (l := l) (k := k) (by omega)
                          have a0 : (fl l)[k * 2 + 0]? = some (str p.1) := by have := fl_at0 hgk; rwa [Nat.zero_add] at this
                          have a1 : (fl l)[k * 2 + 1]? = some (str p.2) := by have := fl_at1 hgk; rwa [Nat.zero_add] at this
                          have lk : Xp.look (l.take (k + 1)) (run t2) = if p.1 = run t2 then some p.2 else Xp.look (l.take k) (run t2) := by rw [take_one hgk]; exact look_snoc _ _ _ _
                          refine LS.skip ?_
                          refine yG ?_
                          refine OS.at (j := k) hv' (by omega) rfl rfl rfl rfl rfl rfl (fun r0 o0 row0 cs0 m0 c0 h0 k0 => ?_)
                          refine ⟨_, rfl, ?_⟩
                          refine yG ?_
                          refine OS.read rfl (e_loadm m0 c0 rfl rfl (part_one rfl (h0 0 _ (by decide) a0))) rfl ?_
                          by_cases hp : p.1 = run t2
                          · have q5 : bytesEq p.1 (run t2) = true := by rw [beq_bytes, hp]; simp
                            rw [if_pos hp] at lk
                            refine yG ?_
                            refine OS.at (j := k) hv' (by omega) rfl rfl rfl rfl rfl rfl (fun r1 o1 row1 cs1 m1 c1 h1 k1 => ?_)
                            refine ⟨_, rfl, ?_⟩
                            refine yG ?_
                            refine OS.read rfl (e_loadm m1 c1 rfl rfl (part_one rfl (h1 1 _ (by decide) a1))) rfl ?_
                            refine yG ?_
                            exact ⟨l.length - (k + 1), by omega, k + 1, rfl, by omega, rfl, by rw [lk]; rfl⟩
                          · have q5 : bytesEq p.1 (run t2) = false := by rw [beq_bytes]; simpa using hp
                            rw [if_neg hp] at lk
                            refine yG ?_
                            exact ⟨l.length - (k + 1), by omega, k + 1, rfl, by omega, rfl, by rw [lk]; rfl⟩
                        · have hc3 := nlt_of hc3
                          obtain rfl : k = l.length := by omega
                          rw [List.take_length]
                          refine LS.exit ?_
                          cases hlk : Xp.look l (run t2) with
                          | none =>
                            rw [hlk] at hD
                            have hsub : subst (Xp.look l) s = .error 63 := by unfold subst; rw [hD]; rfl
                            rw [hsub]
                            refine yG ?_
                            exact ⟨rfl, gv_drop hg⟩
                          | some w =>
                            have hwl := hw _ (look_mem hlk)
                            have hwl : w.length ≤ 1000000 := hwl
                            rw [hlk] at hD
                            simp only [] at hD
                            rw [pre_pre] at hD
                            have hal2 : (acc ++ w).length ≤ (i + 1 + 1 + (run t2).length + 1) * 1000000 := by rw [List.length_append]; omega
                            rcases hg with ⟨rfl, ha0, hb0, rfl⟩ | ⟨r, rfl, hgl, rfl⟩
                            · obtain rfl : acc = [] := List.eq_nil_of_length_eq_zero ha0
                              by_cases hw0 : w = []
                              · subst hw0
                                refine yG ?_
                                refine OS.read rfl (e_appendNil_txt rfl rfl rfl) rfl ?_
                                refine yG ?_
                                exact ⟨s.length - (i + 1 + 1 + (run t2).length + 1), by omega, i + 1 + 1 + (run t2).length + 1, [], _, rfl, by omega, by simp, hD, GV.nil, rfl⟩
                              · have hpos : 0 < w.length := by cases w with
                                  | nil => exact absurd rfl hw0
                                  | cons => simp
                                refine yG ?_
                                refine OS.fresh rfl (e_append0_txt (bts := 1) (s := w) (n := w.length) rfl rfl rfl rfl (by omega) (by omega) hpos) (fun _ => rfl) (fun r2 => ?_)
                                refine yG ?_
                                exact ⟨s.length - (i + 1 + 1 + (run t2).length + 1), by omega, i + 1 + 1 + (run t2).length + 1, w, _, rfl, by omega, by simpa using hal2, hD, GV.of (by rw [byteCells_len]; omega), rfl⟩
                            · refine yG ?_
                              refine OS.fresh rfl (e_append_txt 0 (bts := 1) (s := w) (n := w.length) (len := acc.length) rfl rfl rfl rfl (by omega) (by omega) rfl (cut_all (by rw [byteCells_len]; omega)) rfl) (fun _ => rfl) (fun r2 => ?_)
                              refine yG ?_
                              exact ⟨s.length - (i + 1 + 1 + (run t2).length + 1), by omega, i + 1 + 1 + (run t2).length + 1, acc ++ w, _, rfl, by omega, hal2, hD, gv_app, rfl⟩
                      · have q4 : (!ieqB (d.toNat : Nat) 125) = true := by rw [cmp_u8 (k := 125) d 125 rfl]; simpa using h125
                        rw [hmk, if_pos (.inr (.inr (by rw [hud]; simpa using h125)))] at hD
                        have hsub : subst (Xp.look l) s = .error 4 := by unfold subst; rw [hD]; rfl
                        rw [hsub]
                        refine yG ?_
                        exact ⟨rfl, gv_drop hg⟩
                    · have q3 : ileB ((s.length : Nat) : Int) ((i + 1 + 1 + (run t2).length : Nat) : Int) = true := by rw [ileB_eq]; simp; omega
                      rw [hmk, if_pos (.inr (.inr (by rw [List.getElem?_eq_none (by omega)]; simp)))] at hD
                      have hsub : subst (Xp.look l) s = .error 4 := by unfold subst; rw [hD]; rfl
                      rw [hsub]
                      refine yG ?_
                      exact ⟨rfl, gv_drop hg⟩
              · have b2 : ieqB ((i + 1 + 1 + (run t2).length : Nat) : Int) ((i + 1 + 1 : Nat) : Int) = false := by rw [ieqB_eq]; simp; omega
                have b3 : (!ileB ((i + 1 + 1 + (run t2).length : Nat) : Int) ((i + 1 + 1 : Nat) : Int)) = true := by rw [ileB_eq]; simp; omega
                refine yG ?_
                refine OS.call noGo rfl (fun _ => rfl) ((mark13_ct d).mono ?_)
                rintro u3 L3 ⟨rfl, hL⟩
                rw [hL, st1 (by omega)]
                clear hL
                refine ⟨_, rfl, ?_⟩
                refine yG ?_
                refine LS.exit ?_
                clear hlt hsd hud st0 st1 b1 b2 b3
                have t1 : (s.drop (i + 1 + 1)).take (i + 1 + 1 + (run t2).length - (i + 1 + 1)) = run t2 := by rw [hu, show i + 1 + 1 + (run t2).length - (i + 1 + 1) = (run t2).length by omega]; exact hrt
                refine yG ?_
                refine OS.pure rfl (e_part (s := s) (l := i + 1 + 1) (u := i + 1 + 1 + (run t2).length) rfl rfl rfl rfl bound_nat bound_nat rfl (by omega) (by omega)) rfl ?_
                rw [t1]
                by_cases hE : run t2 = []
                · have q1 : bytesEq (run t2) [] = true := by rw [hE]; rfl
                  rw [hmk, if_pos (.inl hE)] at hD
                  have hsub : subst (Xp.look l) s = .error 4 := by unfold subst; rw [hD]; rfl
                  rw [hsub]
                  refine yG ?_
                  exact ⟨rfl, gv_drop hg⟩
                · have q1 : bytesEq (run t2) [] = false := by rw [beq_bytes]; simpa using hE
                  by_cases h24 : 24 < (run t2).length
                  · have q2 : (!ileB (((run t2).length : Nat) : Int) 24) = true := by rw [ileB_eq]; simp; omega
                    rw [hmk, if_pos (.inr (.inl h24))] at hD
                    have hsub : subst (Xp.look l) s = .error 4 := by unfold subst; rw [hD]; rfl
                    rw [hsub]
                    refine yG ?_
                    exact ⟨rfl, gv_drop hg⟩
                  · have q2 : (!ileB (((run t2).length : Nat) : Int) 24) = false := by rw [ileB_eq]; simp; omega
                    by_cases hlt : i + 1 + 1 + (run t2).length < s.length
                    · obtain ⟨d, hsd⟩ := ext_list (l := s) (k := i + 1 + 1 + (run t2).length) hlt
                      have hud : t2[(run t2).length]? = some d := by rw [← hu, List.getElem?_drop]; rw [hu]; exact hsd
                      have q3 : ileB ((s.length : Nat) : Int) ((i + 1 + 1 + (run t2).length : Nat) : Int) = false := by rw [ileB_eq]; simp; omega
                      by_cases h125 : d = 125
                      · have q4 : (!ieqB (d.toNat : Nat) 125) = false := by rw [cmp_u8 (k := 125) d 125 rfl, h125]; rfl
                        have hsd := hud
                        have hv' : SV 2 L' v l.length (fl l) := hv.mono hg.mem
                        have hEl : i + 1 + 1 + (run t2).length + 1 ≤ s.length := by omega
                        have hb : t2.drop ((run t2).length + 1) = s.drop (i + 1 + 1 + (run t2).length + 1) := by rw [← hu, List.drop_drop]; congr 1
                        rw [hmk, if_neg (by rintro h; rcases h with h | h | h; exact hE h; exact h24 h; exact h (by rw [hsd, h125]))] at hD
                        simp only [hb] at hD
                        refine yG ?_
                        refine LS.loopJ [0, 1, 6, 7, 10, 11, 12, 13] (fun q a L2 => ∃ k : Nat, q = l.length - k ∧ k ≤ l.length ∧ L2 = L' ∧ a = [str s, v, .chan none, .chan none, .chan none, .chan none, ov, .int .i64 ((i + 1 + 1 + (run t2).length + 1 : Nat) : Int), .chan none, .chan none, str (run t2), .bool (Xp.look (l.take k) (run t2)).isSome, str ((Xp.look (l.take k) (run t2)).getD []), .int .i64 (k : Nat), .chan none, .chan none, .chan none, .chan none, .chan none, .chan none, .chan none, .chan none, .chan none, .chan none, .chan none, .chan none, .chan none, .chan none, .chan none, .chan none, .chan none, .chan none, .chan none, .chan none, .chan none, .chan none, .chan none, .chan none, .chan none, .chan none, .chan none, .chan none, .chan none, .chan none, .chan none, .chan none, .chan none, .chan none, .chan none, .chan none, .chan none, .chan none, .chan none, .chan none, .chan none, .chan none, .chan none, .chan none, .chan none, .chan none, .chan none, .chan none, .chan none, .chan none, .chan none, .chan none, .chan none, .chan none, .chan none, .chan none, .chan none, .chan none, .chan none, .chan none, .chan none, .chan none, .chan none, .chan none, .chan none, .chan none, .chan none, .chan none, .chan none, .chan none, .chan none, .chan none, .chan none, .chan none, .chan none, .chan none, .chan none, .chan none, .chan none, .chan none, .chan none, .chan none, .chan none, .chan none, .chan none, .chan none, .chan none, .chan none, .chan none, .chan none, .chan none, .chan none, .chan none, .chan none, .chan none, .chan none, .chan none, .chan none, .chan none, .chan none, .chan none, .chan none, .chan none, .chan none, .chan none, .chan none, .chan none, .chan none, .chan none, .chan none, .chan none, .chan none, .chan none, .chan none, .chan none, .chan none, .chan none, .chan none, .chan none, .chan none, .chan none, .chan none, .chan none, .chan none, .chan none, .chan none, .chan none, .chan none, .chan none, .chan none, .chan none, .chan none]) (n := l.length) rfl ⟨0, rfl, by omega, rfl, rfl⟩ ?_
                        rintro q a L2 ⟨k, rfl, hk, hL, rfl⟩
                        rw [hL]
                        clear hL
                        refine yG ?_
                        repeat refine LS.seq ?_
                        refine LS.cond rfl (fun hc3 => ?_) (fun hc3 => ?_)
                        · have hc3 := lt_of hc3
                          obtain ⟨p, hgk⟩ := ext_list (l := l) (k := k) (by omega)
                          have a0 : (fl l)[k * 2 + 0]? = some (str p.1) := by have := fl_at0 hgk; rwa [Nat.zero_add] at this
                          have a1 : (fl l)[k * 2 + 1]? = some (str p.2) := by have := fl_at1 hgk; rwa [Nat.zero_add] at this
                          have lk : Xp.look (l.take (k + 1)) (run t2) = if p.1 = run t2 then some p.2 else Xp.look (l.take k) (run t2) := by rw [take_one hgk]; exact look_snoc _ _ _ _
                          refine LS.skip ?_
                          refine yG ?_
                          refine OS.at (j := k) hv' (by omega) rfl rfl rfl rfl rfl rfl (fun r0 o0 row0 cs0 m0 c0 h0 k0 => ?_)
                          refine ⟨_, rfl, ?_⟩
                          refine yG ?_
                          refine OS.read rfl (e_loadm m0 c0 rfl rfl (part_one rfl (h0 0 _ (by decide) a0))) rfl ?_
                          by_cases hp : p.1 = run t2
                          · have q5 : bytesEq p.1 (run t2) = true := by rw [beq_bytes, hp]; simp
                            rw [if_pos hp] at lk
                            refine yG ?_
                            refine OS.at (j := k) hv' (by omega) rfl rfl rfl rfl rfl rfl (fun r1 o1 row1 cs1 m1 c1 h1 k1 => ?_)
                            refine ⟨_, rfl, ?_⟩
                            refine yG ?_
                            refine OS.read rfl (e_loadm m1 c1 rfl rfl (part_one rfl (h1 1 _ (by decide) a1))) rfl ?_
                            refine yG ?_
                            exact ⟨l.length - (k + 1), by omega, k + 1, rfl, by omega, rfl, by rw [lk]; rfl⟩
                          · have q5 : bytesEq p.1 (run t2) = false := by rw [beq_bytes]; simpa using hp
                            rw [if_neg hp] at lk
                            refine yG ?_
                            exact ⟨l.length - (k + 1), by omega, k + 1, rfl, by omega, rfl, by rw [lk]; rfl⟩
                        · have hc3 := nlt_of hc3
                          obtain rfl : k = l.length := by omega
                          rw [List.take_length]
                          refine LS.exit ?_
                          cases hlk : Xp.look l (run t2) with
                          | none =>
                            rw [hlk] at hD
                            have hsub : subst (Xp.look l) s = .error 63 := by unfold subst; rw [hD]; rfl
                            rw [hsub]
                            refine yG ?_
                            exact ⟨rfl, gv_drop hg⟩
                          | some w =>
                            have hwl := hw _ (look_mem hlk)
                            have hwl : w.length ≤ 1000000 := hwl
                            rw [hlk] at hD
                            simp only [] at hD
                            rw [pre_pre] at hD
                            have hal2 : (acc ++ w).length ≤ (i + 1 + 1 + (run t2).length + 1) * 1000000 := by rw [List.length_append]; omega
                            rcases hg with ⟨rfl, ha0, hb0, rfl⟩ | ⟨r, rfl, hgl, rfl⟩
                            · obtain rfl : acc = [] := List.eq_nil_of_length_eq_zero ha0
                              by_cases hw0 : w = []
                              · subst hw0
                                refine yG ?_
                                refine OS.read rfl (e_appendNil_txt rfl rfl rfl) rfl ?_
                                refine yG ?_
                                exact ⟨s.length - (i + 1 + 1 + (run t2).length + 1), by omega, i + 1 + 1 + (run t2).length + 1, [], _, rfl, by omega, by simp, hD, GV.nil, rfl⟩
                              · have hpos : 0 < w.length := by cases w with
                                  | nil => exact absurd rfl hw0
                                  | cons => simp
                                refine yG ?_
                                refine OS.fresh rfl (e_append0_txt (bts := 1) (s := w) (n := w.length) rfl rfl rfl rfl (by omega) (by omega) hpos) (fun _ => rfl) (fun r2 => ?_)
                                refine yG ?_
                                exact ⟨s.length - (i + 1 + 1 + (run t2).length + 1), by omega, i + 1 + 1 + (run t2).length + 1, w, _, rfl, by omega, by simpa using hal2, hD, GV.of (by rw [byteCells_len]; omega), rfl⟩
                            · refine yG ?_
                              refine OS.fresh rfl (e_append_txt 0 (bts := 1) (s := w) (n := w.length) (len := acc.length) rfl rfl rfl rfl (by omega) (by omega) rfl (cut_all (by rw [byteCells_len]; omega)) rfl) (fun _ => rfl) (fun r2 => ?_)
                              refine yG ?_
                              exact ⟨s.length - (i + 1 + 1 + (run t2).length + 1), by omega, i + 1 + 1 + (run t2).length + 1, acc ++ w, _, rfl, by omega, hal2, hD, gv_app, rfl⟩
                      · have q4 : (!ieqB (d.toNat : Nat) 125) = true := by rw [cmp_u8 (k := 125) d 125 rfl]; simpa using h125
                        rw [hmk, if_pos (.inr (.inr (by rw [hud]; simpa using h125)))] at hD
                        have hsub : subst (Xp.look l) s = .error 4 := by unfold subst; rw [hD]; rfl
                        rw [hsub]
                        refine yG ?_
                        exact ⟨rfl, gv_drop hg⟩
                    · have q3 : ileB ((s.length : Nat) : Int) ((i + 1 + 1 + (run t2).length : Nat) : Int) = true := by rw [ileB_eq]; simp; omega
                      rw [hmk, if_pos (.inr (.inr (by rw [List.getElem?_eq_none (by omega)]; simp)))] at hD
                      have hsub : subst (Xp.look l) s = .error 4 := by unfold subst; rw [hD]; rfl
                      rw [hsub]
                      refine yG ?_
                      exact ⟨rfl, gv_drop hg⟩
            · have b1 : (!ileB ((s.length : Nat) : Int) ((i + 1 + 1 + (run t2).length : Nat) : Int)) = false := by rw [ileB_eq]; simp; omega
              refine yG ?_
              refine LS.exit ?_
              clear hlt b1
              have t1 : (s.drop (i + 1 + 1)).take (i + 1 + 1 + (run t2).length - (i + 1 + 1)) = run t2 := by rw [hu, show i + 1 + 1 + (run t2).length - (i + 1 + 1) = (run t2).length by omega]; exact hrt
              refine yG ?_
              refine OS.pure rfl (e_part (s := s) (l := i + 1 + 1) (u := i + 1 + 1 + (run t2).length) rfl rfl rfl rfl bound_nat bound_nat rfl (by omega) (by omega)) rfl ?_
              rw [t1]
              by_cases hE : run t2 = []
              · have q1 : bytesEq (run t2) [] = true := by rw [hE]; rfl
                rw [hmk, if_pos (.inl hE)] at hD
                have hsub : subst (Xp.look l) s = .error 4 := by unfold subst; rw [hD]; rfl
                rw [hsub]
                refine yG ?_
                exact ⟨rfl, gv_drop hg⟩
              · have q1 : bytesEq (run t2) [] = false := by rw [beq_bytes]; simpa using hE
                by_cases h24 : 24 < (run t2).length
                · have q2 : (!ileB (((run t2).length : Nat) : Int) 24) = true := by rw [ileB_eq]; simp; omega
                  rw [hmk, if_pos (.inr (.inl h24))] at hD
                  have hsub : subst (Xp.look l) s = .error 4 := by unfold subst; rw [hD]; rfl
                  rw [hsub]
                  refine yG ?_
                  exact ⟨rfl, gv_drop hg⟩
                · have q2 : (!ileB (((run t2).length : Nat) : Int) 24) = false := by rw [ileB_eq]; simp; omega
                  by_cases hlt : i + 1 + 1 + (run t2).length < s.length
                  · obtain ⟨d, hsd⟩ := ext_list (l := s) (k := i + 1 + 1 + (run t2).length) hlt
                    have hud : t2[(run t2).length]? = some d := by rw [← hu, List.getElem?_drop]; rw [hu]; exact hsd
                    have q3 : ileB ((s.length : Nat) : Int) ((i + 1 + 1 + (run t2).length : Nat) : Int) = false := by rw [ileB_eq]; simp; omega
                    by_cases h125 : d = 125
                    · have q4 : (!ieqB (d.toNat : Nat) 125) = false := by rw [cmp_u8 (k := 125) d 125 rfl, h125]; rfl
                      have hsd := hud
                      have hv' : SV 2 L' v l.length (fl l) := hv.mono hg.mem
                      have hEl : i + 1 + 1 + (run t2).length + 1 ≤ s.length := by omega
                      have hb : t2.drop ((run t2).length + 1) = s.drop (i + 1 + 1 + (run t2).length + 1) := by rw [← hu, List.drop_drop]; congr 1
                      rw [hmk, if_neg (by rintro h; rcases h with h | h | h; exact hE h; exact h24 h; exact h (by rw [hsd, h125]))] at hD
                      simp only [hb] at hD
                      refine yG ?_
                      refine LS.loopJ [0, 1, 6, 7, 10, 11, 12, 13] (fun q a L2 => ∃ k : Nat, q = l.length - k ∧ k ≤ l.length ∧ L2 = L' ∧ a = [str s, v, .chan none, .chan none, .chan none, .chan none, ov, .int .i64 ((i + 1 + 1 + (run t2).length + 1 : Nat) : Int), .chan none, .chan none, str (run t2), .bool (Xp.look (l.take k) (run t2)).isSome, str ((Xp.look (l.take k) (run t2)).getD []), .int .i64 (k : Nat), .chan none, .chan none, .chan none, .chan none, .chan none, .chan none, .chan none, .chan none, .chan none, .chan none, .chan none, .chan none, .chan none, .chan none, .chan none, .chan none, .chan none, .chan none, .chan none, .chan none, .chan none, .chan none, .chan none, .chan none, .chan none, .chan none, .chan none, .chan none, .chan none, .chan none, .chan none, .chan none, .chan none, .chan none, .chan none, .chan none, .chan none, .chan none, .chan none, .chan none, .chan none, .chan none, .chan none, .chan none, .chan none, .chan none, .chan none, .chan none, .chan none, .chan none, .chan none, .chan none, .chan none, .chan none, .chan none, .chan none, .chan none, .chan none, .chan none, .chan none, .chan none, .chan none, .chan none, .chan none, .chan none, .chan none, .chan none, .chan none, .chan none, .chan none, .chan none, .chan none, .chan none, .chan none, .chan none, .chan none, .chan none, .chan none, .chan none, .chan none, .chan none, .chan none, .chan none, .chan none, .chan none, .chan none, .chan none, .chan none, .chan none, .chan none, .chan none, .chan none, .chan none, .chan none, .chan none, .chan none, .chan none, .chan none, .chan none, .chan none, .chan none, .chan none, .chan none, .chan none, .chan none, .chan none, .chan none, .chan none, .chan none, .chan none, .chan none, .chan none, .chan none, .chan none, .chan none, .chan none, .chan none, .chan none, .chan none, .chan none, .chan none, .chan none, .chan none, .chan none, .chan none, .chan none, .chan none, .chan none, .chan none, .chan none, .chan none, .chan none]) (n := l.length) rfl ⟨0, rfl, by omega, rfl, rfl⟩ ?_
                      rintro q a L2 ⟨k, rfl, hk, hL, rfl⟩
                      rw [hL]
                      clear hL
                      refine yG ?_
                      repeat refine LS.seq ?_
                      refine LS.cond rfl (fun hc3 => ?_) (fun hc3 => ?_)
                      · have hc3 := lt_of hc3
                        obtain ⟨p, hgk⟩ := ext_list (l := l) (k := k) (by omega)
                        have a0 : (fl l)[k * 2 + 0]? = some (str p.1) := by have := fl_at0 hgk; rwa [Nat.zero_add] at this
                        have a1 : (fl l)[k * 2 + 1]? = some (str p.2) := by have := fl_at1 hgk; rwa [Nat.zero_add] at this
                        have lk : Xp.look (l.take (k + 1)) (run t2) = if p.1 = run t2 then some p.2 else Xp.look (l.take k) (run t2) := by rw [take_one hgk]; exact look_snoc _ _ _ _
                        refine LS.skip ?_
                        refine yG ?_
                        refine OS.at (j := k) hv' (by omega) rfl rfl rfl rfl rfl rfl (fun r0 o0 row0 cs0 m0 c0 h0 k0 => ?_)
                        refine ⟨_, rfl, ?_⟩
                        refine yG ?_
                        refine OS.read rfl (e_loadm m0 c0 rfl rfl (part_one rfl (h0 0 _ (by decide) a0))) rfl ?_
                        by_cases hp : p.1 = run t2
                        · have q5 : bytesEq p.1 (run t2) = true := by rw [beq_bytes, hp]; simp
                          rw [if_pos hp] at lk
                          refine yG ?_
                          refine OS.at (j := k) hv' (by omega) rfl rfl rfl rfl rfl rfl (fun r1 o1 row1 cs1 m1 c1 h1 k1 => ?_)
                          refine ⟨_, rfl, ?_⟩
                          refine yG ?_
                          refine OS.read rfl (e_loadm m1 c1 rfl rfl (part_one rfl (h1 1 _ (by decide) a1))) rfl ?_
                          refine yG ?_
                          exact ⟨l.length - (k + 1), by omega, k + 1, rfl, by omega, rfl, by rw [lk]; rfl⟩
                        · have q5 : bytesEq p.1 (run t2) = false := by rw [beq_bytes]; simpa using hp
                          rw [if_neg hp] at lk
                          refine yG ?_
                          exact ⟨l.length - (k + 1), by omega, k + 1, rfl, by omega, rfl, by rw [lk]; rfl⟩
                      · have hc3 := nlt_of hc3
                        obtain rfl : k = l.length := by omega
                        rw [List.take_length]
                        refine LS.exit ?_
                        cases hlk : Xp.look l (run t2) with
                        | none =>
                          rw [hlk] at hD
                          have hsub : subst (Xp.look l) s = .error 63 := by unfold subst; rw [hD]; rfl
                          rw [hsub]
                          refine yG ?_
                          exact ⟨rfl, gv_drop hg⟩
                        | some w =>
                          have hwl := hw _ (look_mem hlk)
                          have hwl : w.length ≤ 1000000 := hwl
                          rw [hlk] at hD
                          simp only [] at hD
                          rw [pre_pre] at hD
                          have hal2 : (acc ++ w).length ≤ (i + 1 + 1 + (run t2).length + 1) * 1000000 := by rw [List.length_append]; omega
                          rcases hg with ⟨rfl, ha0, hb0, rfl⟩ | ⟨r, rfl, hgl, rfl⟩
                          · obtain rfl : acc = [] := List.eq_nil_of_length_eq_zero ha0
                            by_cases hw0 : w = []
                            · subst hw0
                              refine yG ?_
                              refine OS.read rfl (e_appendNil_txt rfl rfl rfl) rfl ?_
                              refine yG ?_
                              exact ⟨s.length - (i + 1 + 1 + (run t2).length + 1), by omega, i + 1 + 1 + (run t2).length + 1, [], _, rfl, by omega, by simp, hD, GV.nil, rfl⟩
                            · have hpos : 0 < w.length := by cases w with
                                | nil => exact absurd rfl hw0
                                | cons => simp
                              refine yG ?_
                              refine OS.fresh rfl (e_append0_txt (bts := 1) (s := w) (n := w.length) rfl rfl rfl rfl (by omega) (by omega) hpos) (fun _ => rfl) (fun r2 => ?_)
                              refine yG ?_
                              exact ⟨s.length - (i + 1 + 1 + (run t2).length + 1), by omega, i + 1 + 1 + (run t2).length + 1, w, _, rfl, by omega, by simpa using hal2, hD, GV.of (by rw [byteCells_len]; omega), rfl⟩
                          · refine yG ?_
                            refine OS.fresh rfl (e_append_txt 0 (bts := 1) (s := w) (n := w.length) (len := acc.length) rfl rfl rfl rfl (by omega) (by omega) rfl (cut_all (by rw [byteCells_len]; omega)) rfl) (fun _ => rfl) (fun r2 => ?_)
                            refine yG ?_
                            exact ⟨s.length - (i + 1 + 1 + (run t2).length + 1), by omega, i + 1 + 1 + (run t2).length + 1, acc ++ w, _, rfl, by omega, hal2, hD, gv_app, rfl⟩
                    · have q4 : (!ieqB (d.toNat : Nat) 125) = true := by rw [cmp_u8 (k := 125) d 125 rfl]; simpa using h125
                      rw [hmk, if_pos (.inr (.inr (by rw [hud]; simpa using h125)))] at hD
                      have hsub : subst (Xp.look l) s = .error 4 := by unfold subst; rw [hD]; rfl
                      rw [hsub]
                      refine yG ?_
                      exact ⟨rfl, gv_drop hg⟩
                  · have q3 : ileB ((s.length : Nat) : Int) ((i + 1 + 1 + (run t2).length : Nat) : Int) = true := by rw [ileB_eq]; simp; omega
                    rw [hmk, if_pos (.inr (.inr (by rw [List.getElem?_eq_none (by omega)]; simp)))] at hD
                    have hsub : subst (Xp.look l) s = .error 4 := by unfold subst; rw [hD]; rfl
                    rw [hsub]
                    refine yG ?_
                    exact ⟨rfl, gv_drop hg⟩
        · have bC : ieqB (d.toNat : Nat) 123 = false := by rw [cmp_u8 (k := 123) d 123 rfl]; simpa using hd123
          have hmk : Xp.mark t = if run t = [] ∨ 24 < (run t).length then none else some (some (run t), t.drop (run t).length) := by rw [htt]; exact mark_plain hd36 hd123
          rw [hu] at hD
          clear ht
          obtain ⟨hrt, hrl⟩ := run_take t
          have hul : s.length = i + 1 + t.length := by rw [← hu, List.length_drop]; omega
          refine yG ?_
          refine LS.loopJ [0, 1, 6, 7, 8, 9] (fun q a L2 => ∃ m : Nat, q = (run t).length - m ∧ m ≤ (run t).length ∧ L2 = L' ∧ a = [str s, v, .chan none, .chan none, .chan none, .chan none, ov, .int .i64 ((i + 1 + m : Nat) : Int), .bool false, .int .i64 ((i + 1 : Nat) : Int), .chan none, .chan none, .chan none, .chan none, .chan none, .chan none, .chan none, .chan none, .chan none, .chan none, .chan none, .chan none, .chan none, .chan none, .chan none, .chan none, .chan none, .chan none, .chan none, .chan none, .chan none, .chan none, .chan none, .chan none, .chan none, .chan none, .chan none, .chan none, .chan none, .chan none, .chan none, .chan none, .chan none, .chan none, .chan none, .chan none, .chan none, .chan none, .chan none, .chan none, .chan none, .chan none, .chan none, .chan none, .chan none, .chan none, .chan none, .chan none, .chan none, .chan none, .chan none, .chan none, .chan none, .chan none, .chan none, .chan none, .chan none, .chan none, .chan none, .chan none, .chan none, .chan none, .chan none, .chan none, .chan none, .chan none, .chan none, .chan none, .chan none, .chan none, .chan none, .chan none, .chan none, .chan none, .chan none, .chan none, .chan none, .chan none, .chan none, .chan none, .chan none, .chan none, .chan none, .chan none, .chan none, .chan none, .chan none, .chan none, .chan none, .chan none, .chan none, .chan none, .chan none, .chan none, .chan none, .chan none, .chan none, .chan none, .chan none, .chan none, .chan none, .chan none, .chan none, .chan none, .chan none, .chan none, .chan none, .chan none, .chan none, .chan none, .chan none, .chan none, .chan none, .chan none, .chan none, .chan none, .chan none, .chan none, .chan none, .chan none, .chan none, .chan none, .chan none, .chan none, .chan none, .chan none, .chan none, .chan none, .chan none, .chan none, .chan none, .chan none, .chan none, .chan none, .chan none, .chan none]) (n := (run t).length) rfl ⟨0, rfl, by omega, rfl, rfl⟩ ?_
          rintro q a L2 ⟨m, rfl, hm, hL, rfl⟩
          rw [hL]
          clear hL
          by_cases hmr : m < (run t).length
          · obtain ⟨d, hd1, hd2, hd3⟩ := run_go hmr
            have hsd : s[i + 1 + m]? = some d := by rw [← List.getElem?_drop, hu]; exact hd1
            have hlt : i + 1 + m < s.length := (List.getElem?_eq_some_iff.1 hsd).1
            have b1 : (!ileB ((s.length : Nat) : Int) ((i + 1 + m : Nat) : Int)) = true := by rw [ileB_eq]; simp; omega
            rcases Nat.eq_zero_or_pos m with h0 | h0
            · have b2 : ieqB ((i + 1 + m : Nat) : Int) ((i + 1 : Nat) : Int) = true := by rw [ieqB_eq, h0]; simp <;> omega
              refine yG ?_
              refine OS.call noGo rfl (fun _ => rfl) ((letter13_ct d).mono ?_)
              rintro u3 L3 ⟨rfl, hL⟩
              rw [hL, hd3 h0]
              clear hL
              refine ⟨_, rfl, ?_⟩
              refine yG ?_
              exact ⟨(run t).length - (m + 1), by omega, m + 1, rfl, by omega, rfl, rfl⟩
            · have b2 : ieqB ((i + 1 + m : Nat) : Int) ((i + 1 : Nat) : Int) = false := by rw [ieqB_eq]; simp; omega
              have b3 : (!ileB ((i + 1 + m : Nat) : Int) ((i + 1 : Nat) : Int)) = true := by rw [ileB_eq]; simp; omega
              refine yG ?_
              refine OS.call noGo rfl (fun _ => rfl) ((mark13_ct d).mono ?_)
              rintro u3 L3 ⟨rfl, hL⟩
              rw [hL, hd2]
              clear hL
              refine ⟨_, rfl, ?_⟩
              refine yG ?_
              exact ⟨(run t).length - (m + 1), by omega, m + 1, rfl, by omega, rfl, rfl⟩
          · obtain rfl : m = (run t).length := by omega
            by_cases hlt : i + 1 + (run t).length < s.length
            · obtain ⟨d, hsd⟩ := ext_list (l := s) (k := i + 1 + (run t).length) hlt
              have hud : t[(run t).length]? = some d := by rw [← hu, List.getElem?_drop, hu]; exact hsd
              obtain ⟨st0, st1⟩ := run_stop hud
              have b1 : (!ileB ((s.length : Nat) : Int) ((i + 1 + (run t).length : Nat) : Int)) = true := by rw [ileB_eq]; simp; omega
              rcases Nat.eq_zero_or_pos (run t).length with h0 | h0
              · have b2 : ieqB ((i + 1 + (run t).length : Nat) : Int) ((i + 1 : Nat) : Int) = true := by rw [ieqB_eq, h0]; simp <;> omega
                have b3 : (!ileB ((i + 1 + (run t).length : Nat) : Int) ((i + 1 : Nat) : Int)) = false := by rw [ileB_eq, h0]; simp <;> omega
                refine yG ?_
                refine OS.call noGo rfl (fun _ => rfl) ((letter13_ct d).mono ?_)
                rintro u3 L3 ⟨rfl, hL⟩
                rw [hL, st0 h0]
                clear hL
                refine ⟨_, rfl, ?_⟩
                refine yG ?_
                refine LS.exit ?_
                clear hlt hsd hud st0 st1 b1 b2 b3
                have t1 : (s.drop (i + 1)).take (i + 1 + (run t).length - (i + 1)) = run t := by rw [hu, show i + 1 + (run t).length - (i + 1) = (run t).length by omega]; exact hrt
                refine yG ?_
                refine OS.pure rfl (e_part (s := s) (l := i + 1) (u := i + 1 + (run t).length) rfl rfl rfl rfl bound_nat bound_nat rfl (by omega) (by omega)) rfl ?_
                rw [t1]
                by_cases hE : run t = []
                · have q1 : bytesEq (run t) [] = true := by rw [hE]; rfl
                  rw [hmk, if_pos (.inl hE)] at hD
                  have hsub : subst (Xp.look l) s = .error 4 := by unfold subst; rw [hD]; rfl
                  rw [hsub]
                  refine yG ?_
                  exact ⟨rfl, gv_drop hg⟩
                · have q1 : bytesEq (run t) [] = false := by rw [beq_bytes]; simpa using hE
                  by_cases h24 : 24 < (run t).length
                  · have q2 : (!ileB (((run t).length : Nat) : Int) 24) = true := by rw [ileB_eq]; simp; omega
                    rw [hmk, if_pos (.inr h24)] at hD
                    have hsub : subst (Xp.look l) s = .error 4 := by unfold subst; rw [hD]; rfl
                    rw [hsub]
                    refine yG ?_
                    exact ⟨rfl, gv_drop hg⟩
                  · have q2 : (!ileB (((run t).length : Nat) : Int) 24) = false := by rw [ileB_eq]; simp; omega
                    have hv' : SV 2 L' v l.length (fl l) := hv.mono hg.mem
                    have hEl : i + 1 + (run t).length ≤ s.length := by omega
                    have hb : t.drop ((run t).length) = s.drop (i + 1 + (run t).length) := by rw [← hu, List.drop_drop]
                    rw [hmk, if_neg (by rintro h; rcases h with h | h; exact hE h; exact h24 h)] at hD
                    simp only [hb] at hD
                    refine yG ?_
                    refine LS.loopJ [0, 1, 6, 7, 10, 11, 12, 13] (fun q a L2 => ∃ k : Nat, q = l.length - k ∧ k ≤ l.length ∧ L2 = L' ∧ a = [str s, v, .chan none, .chan none, .chan none, .chan none, ov, .int .i64 ((i + 1 + (run t).length : Nat) : Int), .chan none, .chan none, str (run t), .bool (Xp.look (l.take k) (run t)).isSome, str ((Xp.look (l.take k) (run t)).getD []), .int .i64 (k : Nat), .chan none, .chan none, .chan none, .chan none, .chan none, .chan none, .chan none, .chan none, .chan none, .chan none, .chan none, .chan none, .chan none, .chan none, .chan none, .chan none, .chan none, .chan none, .chan none, .chan none, .chan none, .chan none, .chan none, .chan none, .chan none, .chan none, .chan none, .chan none, .chan none, .chan none, .chan none, .chan none, .chan none, .chan none, .chan none, .chan none, .chan none, .chan none, .chan none, .chan none, .chan none, .chan none, .chan none, .chan none, .chan none, .chan none, .chan none, .chan none, .chan none, .chan none, .chan none, .chan none, .chan none, .chan none, .chan none, .chan none, .chan none, .chan none, .chan none, .chan none, .chan none, .chan none, .chan none, .chan none, .chan none, .chan none, .chan none, .chan none, .chan none, .chan none, .chan none, .chan none, .chan none, .chan none, .chan none, .chan none, .chan none, .chan none, .chan none, .chan none, .chan none, .chan none, .chan none, .chan none, .chan none, .chan none, .chan none, .chan none, .chan none, .chan none, .chan none, .chan none, .chan none, .chan none, .chan none, .chan none, .chan none, .chan none, .chan none, .chan none, .chan none, .chan none, .chan none, .chan none, .chan none, .chan none, .chan none, .chan none, .chan none, .chan none, .chan none, .chan none, .chan none, .chan none, .chan none, .chan none, .chan none, .chan none, .chan none, .chan none, .chan none, .chan none, .chan none, .chan none, .chan none, .chan none, .chan none, .chan none, .chan none, .chan none, .chan none, .chan none]) (n := l.length) rfl ⟨0, rfl, by omega, rfl, rfl⟩ ?_
                    rintro q a L2 ⟨k, rfl, hk, hL, rfl⟩
                    rw [hL]
                    clear hL
                    refine yG ?_
                    repeat refine LS.seq ?_
                    refine LS.cond rfl (fun hc3 => ?_) (fun hc3 => ?_)
                    · have hc3 := lt_of hc3
                      obtain ⟨p, hgk⟩ := ext_list (l := l) (k := k) (by omega)
                      have a0 : (fl l)[k * 2 + 0]? = some (str p.1) := by have := fl_at0 hgk; rwa [Nat.zero_add] at this
                      have a1 : (fl l)[k * 2 + 1]? = some (str p.2) := by have := fl_at1 hgk; rwa [Nat.zero_add] at this
                      have lk : Xp.look (l.take (k + 1)) (run t) = if p.1 = run t then some p.2 else Xp.look (l.take k) (run t) := by rw [take_one hgk]; exact look_snoc _ _ _ _
                      refine LS.skip ?_
                      refine yG ?_
                      refine OS.at (j := k) hv' (by omega) rfl rfl rfl rfl rfl rfl (fun r0 o0 row0 cs0 m0 c0 h0 k0 => ?_)
                      refine ⟨_, rfl, ?_⟩
                      refine yG ?_
                      refine OS.read rfl (e_loadm m0 c0 rfl rfl (part_one rfl (h0 0 _ (by decide) a0))) rfl ?_
                      by_cases hp : p.1 = run t
                      · have q5 : bytesEq p.1 (run t) = true := by rw [beq_bytes, hp]; simp
                        rw [if_pos hp] at lk
                        refine yG ?_
                        refine OS.at (j := k) hv' (by omega) rfl rfl rfl rfl rfl rfl (fun r1 o1 row1 cs1 m1 c1 h1 k1 => ?_)
                        refine ⟨_, rfl, ?_⟩
                        refine yG ?_
                        refine OS.read rfl (e_loadm m1 c1 rfl rfl (part_one rfl (h1 1 _ (by decide) a1))) rfl ?_
                        refine yG ?_
                        exact ⟨l.length - (k + 1), by omega, k + 1, rfl, by omega, rfl, by rw [lk]; rfl⟩
                      · have q5 : bytesEq p.1 (run t) = false := by rw [beq_bytes]; simpa using hp
                        rw [if_neg hp] at lk
                        refine yG ?_
                        exact ⟨l.length - (k + 1), by omega, k + 1, rfl, by omega, rfl, by rw [lk]; rfl⟩
                    · have hc3 := nlt_of hc3
                      obtain rfl : k = l.length := by omega
                      rw [List.take_length]
                      refine LS.exit ?_
                      cases hlk : Xp.look l (run t) with
                      | none =>
                        rw [hlk] at hD
                        have hsub : subst (Xp.look l) s = .error 63 := by unfold subst; rw [hD]; rfl
                        rw [hsub]
                        refine yG ?_
                        exact ⟨rfl, gv_drop hg⟩
                      | some w =>
                        have hwl := hw _ (look_mem hlk)
                        have hwl : w.length ≤ 1000000 := hwl
                        rw [hlk] at hD
                        simp only [] at hD
                        rw [pre_pre] at hD
                        have hal2 : (acc ++ w).length ≤ (i + 1 + (run t).length) * 1000000 := by rw [List.length_append]; omega
                        rcases hg with ⟨rfl, ha0, hb0, rfl⟩ | ⟨r, rfl, hgl, rfl⟩
                        · obtain rfl : acc = [] := List.eq_nil_of_length_eq_zero ha0
                          by_cases hw0 : w = []
                          · subst hw0
                            refine yG ?_
                            refine OS.read rfl (e_appendNil_txt rfl rfl rfl) rfl ?_
                            refine yG ?_
                            exact ⟨s.length - (i + 1 + (run t).length), by omega, i + 1 + (run t).length, [], _, rfl, by omega, by simp, hD, GV.nil, rfl⟩
                          · have hpos : 0 < w.length := by cases w with
                              | nil => exact absurd rfl hw0
                              | cons => simp
                            refine yG ?_
                            refine OS.fresh rfl (e_append0_txt (bts := 1) (s := w) (n := w.length) rfl rfl rfl rfl (by omega) (by omega) hpos) (fun _ => rfl) (fun r2 => ?_)
                            refine yG ?_
                            exact ⟨s.length - (i + 1 + (run t).length), by omega, i + 1 + (run t).length, w, _, rfl, by omega, by simpa using hal2, hD, GV.of (by rw [byteCells_len]; omega), rfl⟩
                        · refine yG ?_
                          refine OS.fresh rfl (e_append_txt 0 (bts := 1) (s := w) (n := w.length) (len := acc.length) rfl rfl rfl rfl (by omega) (by omega) rfl (cut_all (by rw [byteCells_len]; omega)) rfl) (fun _ => rfl) (fun r2 => ?_)
                          refine yG ?_
                          exact ⟨s.length - (i + 1 + (run t).length), by omega, i + 1 + (run t).length, acc ++ w, _, rfl, by omega, hal2, hD, gv_app, rfl⟩
              · have b2 : ieqB ((i + 1 + (run t).length : Nat) : Int) ((i + 1 : Nat) : Int) = false := by rw [ieqB_eq]; simp; omega
                have b3 : (!ileB ((i + 1 + (run t).length : Nat) : Int) ((i + 1 : Nat) : Int)) = true := by rw [ileB_eq]; simp; omega
                refine yG ?_
                refine OS.call noGo rfl (fun _ => rfl) ((mark13_ct d).mono ?_)
                rintro u3 L3 ⟨rfl, hL⟩
                rw [hL, st1 (by omega)]
                clear hL
                refine ⟨_, rfl, ?_⟩
                refine yG ?_
                refine LS.exit ?_
                clear hlt hsd hud st0 st1 b1 b2 b3
                have t1 : (s.drop (i + 1)).take (i + 1 + (run t).length - (i + 1)) = run t := by rw [hu, show i + 1 + (run t).length - (i + 1) = (run t).length by omega]; exact hrt
                refine yG ?_
                refine OS.pure rfl (e_part (s := s) (l := i + 1) (u := i + 1 + (run t).length) rfl rfl rfl rfl bound_nat bound_nat rfl (by omega) (by omega)) rfl ?_
                rw [t1]
                by_cases hE : run t = []
                · have q1 : bytesEq (run t) [] = true := by rw [hE]; rfl
                  rw [hmk, if_pos (.inl hE)] at hD
                  have hsub : subst (Xp.look l) s = .error 4 := by unfold subst; rw [hD]; rfl
                  rw [hsub]
                  refine yG ?_
                  exact ⟨rfl, gv_drop hg⟩
                · have q1 : bytesEq (run t) [] = false := by rw [beq_bytes]; simpa using hE
                  by_cases h24 : 24 < (run t).length
                  · have q2 : (!ileB (((run t).length : Nat) : Int) 24) = true := by rw [ileB_eq]; simp; omega
                    rw [hmk, if_pos (.inr h24)] at hD
                    have hsub : subst (Xp.look l) s = .error 4 := by unfold subst; rw [hD]; rfl
                    rw [hsub]
                    refine yG ?_
                    exact ⟨rfl, gv_drop hg⟩
                  · have q2 : (!ileB (((run t).length : Nat) : Int) 24) = false := by rw [ileB_eq]; simp; omega
                    have hv' : SV 2 L' v l.length (fl l) := hv.mono hg.mem
                    have hEl : i + 1 + (run t).length ≤ s.length := by omega
                    have hb : t.drop ((run t).length) = s.drop (i + 1 + (run t).length) := by rw [← hu, List.drop_drop]
                    rw [hmk, if_neg (by rintro h; rcases h with h | h; exact hE h; exact h24 h)] at hD
                    simp only [hb] at hD
                    refine yG ?_
                    refine LS.loopJ [0, 1, 6, 7, 10, 11, 12, 13] (fun q a L2 => ∃ k : Nat, q = l.length - k ∧ k ≤ l.length ∧ L2 = L' ∧ a = [str s, v, .chan none, .chan none, .chan none, .chan none, ov, .int .i64 ((i + 1 + (run t).length : Nat) : Int), .chan none, .chan none, str (run t), .bool (Xp.look (l.take k) (run t)).isSome, str ((Xp.look (l.take k) (run t)).getD []), .int .i64 (k : Nat), .chan none, .chan none, .chan none, .chan none, .chan none, .chan none, .chan none, .chan none, .chan none, .chan none, .chan none, .chan none, .chan none, .chan none, .chan none, .chan none, .chan none, .chan none, .chan none, .chan none, .chan none, .chan none, .chan none, .chan none, .chan none, .chan none, .chan none, .chan none, .chan none, .chan none, .chan none, .chan none, .chan none, .chan none, .chan none, .chan none, .chan none, .chan none, .chan none, .chan none, .chan none, .chan none, .chan none, .chan none, .chan none, .chan none, .chan none, .chan none, .chan none, .chan none, .chan none, .chan none, .chan none, .chan none, .chan none, .chan none, .chan none, .chan none, .chan none, .chan none, .chan none, .chan none, .chan none, .chan none, .chan none, .chan none, .chan none, .chan none, .chan none, .chan none, .chan none, .chan none, .chan none, .chan none, .chan none, .chan none, .chan none, .chan none, .chan none, .chan none, .chan none, .chan none, .chan none, .chan none, .chan none, .chan none, .chan none, .chan none, .chan none, .chan none, .chan none, .chan none, .chan none, .chan none, .chan none, .chan none, .chan none, .chan none, .chan none, .chan none, .chan none, .chan none, .chan none, .chan none, .chan none, .chan none, .chan none, .chan none, .chan none, .chan none, .chan none, .chan none, .chan none, .chan none, .chan none, .chan none, .chan none, .chan none, .chan none, .chan none, .chan none, .chan none, .chan none, .chan none, .chan none, .chan none, .chan none, .chan none, .chan none, .chan none, .chan none, .chan none]) (n := l.length) rfl ⟨0, rfl, by omega, rfl, rfl⟩ ?_
                    rintro q a L2 ⟨k, rfl, hk, hL, rfl⟩
                    rw [hL]
                    clear hL
                    refine yG ?_
                    repeat refine LS.seq ?_
                    refine LS.cond rfl (fun hc3 => ?_) (fun hc3 => ?_)
                    · have hc3 := lt_of hc3
                      obtain ⟨p, hgk⟩ := ext_list (l := l) (k := k) (by omega)
                      have a0 : (fl l)[k * 2 + 0]? = some (str p.1) := by have := fl_at0 hgk; rwa [Nat.zero_add] at this
                      have a1 : (fl l)[k * 2 + 1]? = some (str p.2) := by have := fl_at1 hgk; rwa [Nat.zero_add] at this
                      have lk : Xp.look (l.take (k + 1)) (run t) = if p.1 = run t then some p.2 else Xp.look (l.take k) (run t) := by rw [take_one hgk]; exact look_snoc _ _ _ _
                      refine LS.skip ?_
                      refine yG ?_
                      refine OS.at (j := k) hv' (by omega) rfl rfl rfl rfl rfl rfl (fun r0 o0 row0 cs0 m0 c0 h0 k0 => ?_)
                      refine ⟨_, rfl, ?_⟩
                      refine yG ?_
                      refine OS.read rfl (e_loadm m0 c0 rfl rfl (part_one rfl (h0 0 _ (by decide) a0))) rfl ?_
                      by_cases hp : p.1 = run t
                      · have q5 : bytesEq p.1 (run t) = true := by rw [beq_bytes, hp]; simp
                        rw [if_pos hp] at lk
                        refine yG ?_
                        refine OS.at (j := k) hv' (by omega) rfl rfl rfl rfl rfl rfl (fun r1 o1 row1 cs1 m1 c1 h1 k1 => ?_)
                        refine ⟨_, rfl, ?_⟩
                        refine yG ?_
                        refine OS.read rfl (e_loadm m1 c1 rfl rfl (part_one rfl (h1 1 _ (by decide) a1))) rfl ?_
                        refine yG ?_
                        exact ⟨l.length - (k + 1), by omega, k + 1, rfl, by omega, rfl, by rw [lk]; rfl⟩
                      · have q5 : bytesEq p.1 (run t) = false := by rw [beq_bytes]; simpa using hp
                        rw [if_neg hp] at lk
                        refine yG ?_
                        exact ⟨l.length - (k + 1), by omega, k + 1, rfl, by omega, rfl, by rw [lk]; rfl⟩
                    · have hc3 := nlt_of hc3
                      obtain rfl : k = l.length := by omega
                      rw [List.take_length]
                      refine LS.exit ?_
                      cases hlk : Xp.look l (run t) with
                      | none =>
                        rw [hlk] at hD
                        have hsub : subst (Xp.look l) s = .error 63 := by unfold subst; rw [hD]; rfl
                        rw [hsub]
                        refine yG ?_
                        exact ⟨rfl, gv_drop hg⟩
                      | some w =>
                        have hwl := hw _ (look_mem hlk)
                        have hwl : w.length ≤ 1000000 := hwl
                        rw [hlk] at hD
                        simp only [] at hD
                        rw [pre_pre] at hD
                        have hal2 : (acc ++ w).length ≤ (i + 1 + (run t).length) * 1000000 := by rw [List.length_append]; omega
                        rcases hg with ⟨rfl, ha0, hb0, rfl⟩ | ⟨r, rfl, hgl, rfl⟩
                        · obtain rfl : acc = [] := List.eq_nil_of_length_eq_zero ha0
                          by_cases hw0 : w = []
                          · subst hw0
                            refine yG ?_
                            refine OS.read rfl (e_appendNil_txt rfl rfl rfl) rfl ?_
                            refine yG ?_
                            exact ⟨s.length - (i + 1 + (run t).length), by omega, i + 1 + (run t).length, [], _, rfl, by omega, by simp, hD, GV.nil, rfl⟩
                          · have hpos : 0 < w.length := by cases w with
                              | nil => exact absurd rfl hw0
                              | cons => simp
                            refine yG ?_
                            refine OS.fresh rfl (e_append0_txt (bts := 1) (s := w) (n := w.length) rfl rfl rfl rfl (by omega) (by omega) hpos) (fun _ => rfl) (fun r2 => ?_)
                            refine yG ?_
                            exact ⟨s.length - (i + 1 + (run t).length), by omega, i + 1 + (run t).length, w, _, rfl, by omega, by simpa using hal2, hD, GV.of (by rw [byteCells_len]; omega), rfl⟩
                        · refine yG ?_
                          refine OS.fresh rfl (e_append_txt 0 (bts := 1) (s := w) (n := w.length) (len := acc.length) rfl rfl rfl rfl (by omega) (by omega) rfl (cut_all (by rw [byteCells_len]; omega)) rfl) (fun _ => rfl) (fun r2 => ?_)
                          refine yG ?_
                          exact ⟨s.length - (i + 1 + (run t).length), by omega, i + 1 + (run t).length, acc ++ w, _, rfl, by omega, hal2, hD, gv_app, rfl⟩
            · have b1 : (!ileB ((s.length : Nat) : Int) ((i + 1 + (run t).length : Nat) : Int)) = false := by rw [ileB_eq]; simp; omega
              refine yG ?_
              refine LS.exit ?_
              clear hlt b1
              have t1 : (s.drop (i + 1)).take (i + 1 + (run t).length - (i + 1)) = run t := by rw [hu, show i + 1 + (run t).length - (i + 1) = (run t).length by omega]; exact hrt
              refine yG ?_
              refine OS.pure rfl (e_part (s := s) (l := i + 1) (u := i + 1 + (run t).length) rfl rfl rfl rfl bound_nat bound_nat rfl (by omega) (by omega)) rfl ?_
              rw [t1]
              by_cases hE : run t = []
              · have q1 : bytesEq (run t) [] = true := by rw [hE]; rfl
                rw [hmk, if_pos (.inl hE)] at hD
                have hsub : subst (Xp.look l) s = .error 4 := by unfold subst; rw [hD]; rfl
                rw [hsub]
                refine yG ?_
                exact ⟨rfl, gv_drop hg⟩
              · have q1 : bytesEq (run t) [] = false := by rw [beq_bytes]; simpa using hE
                by_cases h24 : 24 < (run t).length
                · have q2 : (!ileB (((run t).length : Nat) : Int) 24) = true := by rw [ileB_eq]; simp; omega
                  rw [hmk, if_pos (.inr h24)] at hD
                  have hsub : subst (Xp.look l) s = .error 4 := by unfold subst; rw [hD]; rfl
                  rw [hsub]
                  refine yG ?_
                  exact ⟨rfl, gv_drop hg⟩
                · have q2 : (!ileB (((run t).length : Nat) : Int) 24) = false := by rw [ileB_eq]; simp; omega
                  have hv' : SV 2 L' v l.length (fl l) := hv.mono hg.mem
                  have hEl : i + 1 + (run t).length ≤ s.length := by omega
                  have hb : t.drop ((run t).length) = s.drop (i + 1 + (run t).length) := by rw [← hu, List.drop_drop]
                  rw [hmk, if_neg (by rintro h; rcases h with h | h; exact hE h; exact h24 h)] at hD
                  simp only [hb] at hD
                  refine yG ?_
                  refine LS.loopJ [0, 1, 6, 7, 10, 11, 12, 13] (fun q a L2 => ∃ k : Nat, q = l.length - k ∧ k ≤ l.length ∧ L2 = L' ∧ a = [str s, v, .chan none, .chan none, .chan none, .chan none, ov, .int .i64 ((i + 1 + (run t).length : Nat) : Int), .chan none, .chan none, str (run t), .bool (Xp.look (l.take k) (run t)).isSome, str ((Xp.look (l.take k) (run t)).getD []), .int .i64 (k : Nat), .chan none, .chan none, .chan none, .chan none, .chan none, .chan none, .chan none, .chan none, .chan none, .chan none, .chan none, .chan none, .chan none, .chan none, .chan none, .chan none, .chan none, .chan none, .chan none, .chan none, .chan none, .chan none, .chan none, .chan none, .chan none, .chan none, .chan none, .chan none, .chan none, .chan none, .chan none, .chan none, .chan none, .chan none, .chan none, .chan none, .chan none, .chan none, .chan none, .chan none, .chan none, .chan none, .chan none, .chan none, .chan none, .chan none, .chan none, .chan none, .chan none, .chan none, .chan none, .chan none, .chan none, .chan none, .chan none, .chan none, .chan none, .chan none, .chan none, .chan none, .chan none, .chan none, .chan none, .chan none, .chan none, .chan none, .chan none, .chan none, .chan none, .chan none, .chan none, .chan none, .chan none, .chan none, .chan none, .chan none, .chan none, .chan none, .chan none, .chan none, .chan none, .chan none, .chan none, .chan none, .chan none, .chan none, .chan none, .chan none, .chan none, .chan none, .chan none, .chan none, .chan none, .chan none, .chan none, .chan none, .chan none, .chan none, .chan none, .chan none, .chan none, .chan none, .chan none, .chan none, .chan none, .chan none, .chan none, .chan none, .chan none, .chan none, .chan none, .chan none, .chan none, .chan none, .chan none, .chan none, .chan none, .chan none, .chan none, .chan none, .chan none, .chan none, .chan none, .chan none, .chan none, .chan none, .chan none, .chan none, .chan none, .chan none, .chan none, .chan none]) (n := l.length) rfl ⟨0, rfl, by omega, rfl, rfl⟩ ?_
                  rintro q a L2 ⟨k, rfl, hk, hL, rfl⟩
                  rw [hL]
                  clear hL
                  refine yG ?_
                  repeat refine LS.seq ?_
                  refine LS.cond rfl (fun hc3 => ?_) (fun hc3 => ?_)
                  · have hc3 := lt_of hc3
                    obtain ⟨p, hgk⟩ := ext_list (l := l) (k := k) (by omega)
                    have a0 : (fl l)[k * 2 + 0]? = some (str p.1) := by have := fl_at0 hgk; rwa [Nat.zero_add] at this
                    have a1 : (fl l)[k * 2 + 1]? = some (str p.2) := by have := fl_at1 hgk; rwa [Nat.zero_add] at this
                    have lk : Xp.look (l.take (k + 1)) (run t) = if p.1 = run t then some p.2 else Xp.look (l.take k) (run t) := by rw [take_one hgk]; exact look_snoc _ _ _ _
                    refine LS.skip ?_
                    refine yG ?_
                    refine OS.at (j := k) hv' (by omega) rfl rfl rfl rfl rfl rfl (fun r0 o0 row0 cs0 m0 c0 h0 k0 => ?_)
                    refine ⟨_, rfl, ?_⟩
                    refine yG ?_
                    refine OS.read rfl (e_loadm m0 c0 rfl rfl (part_one rfl (h0 0 _ (by decide) a0))) rfl ?_
                    by_cases hp : p.1 = run t
                    · have q5 : bytesEq p.1 (run t) = true := by rw [beq_bytes, hp]; simp
                      rw [if_pos hp] at lk
                      refine yG ?_
                      refine OS.at (j := k) hv' (by omega) rfl rfl rfl rfl rfl rfl (fun r1 o1 row1 cs1 m1 c1 h1 k1 => ?_)
                      refine ⟨_, rfl, ?_⟩
                      refine yG ?_
                      refine OS.read rfl (e_loadm m1 c1 rfl rfl (part_one rfl (h1 1 _ (by decide) a1))) rfl ?_
                      refine yG ?_
                      exact ⟨l.length - (k + 1), by omega, k + 1, rfl, by omega, rfl, by rw [lk]; rfl⟩
                    · have q5 : bytesEq p.1 (run t) = false := by rw [beq_bytes]; simpa using hp
                      rw [if_neg hp] at lk
                      refine yG ?_
                      exact ⟨l.length - (k + 1), by omega, k + 1, rfl, by omega, rfl, by rw [lk]; rfl⟩
                  · have hc3 := nlt_of hc3
                    obtain rfl : k = l.length := by omega
                    rw [List.take_length]
                    refine LS.exit ?_
                    cases hlk : Xp.look l (run t) with
                    | none =>
                      rw [hlk] at hD
                      have hsub : subst (Xp.look l) s = .error 63 := by unfold subst; rw [hD]; rfl
                      rw [hsub]
                      refine yG ?_
                      exact ⟨rfl, gv_drop hg⟩
                    | some w =>
                      have hwl := hw _ (look_mem hlk)
                      have hwl : w.length ≤ 1000000 := hwl
                      rw [hlk] at hD
                      simp only [] at hD
                      rw [pre_pre] at hD
                      have hal2 : (acc ++ w).length ≤ (i + 1 + (run t).length) * 1000000 := by rw [List.length_append]; omega
                      rcases hg with ⟨rfl, ha0, hb0, rfl⟩ | ⟨r, rfl, hgl, rfl⟩
                      · obtain rfl : acc = [] := List.eq_nil_of_length_eq_zero ha0
                        by_cases hw0 : w = []
                        · subst hw0
                          refine yG ?_
                          refine OS.read rfl (e_appendNil_txt rfl rfl rfl) rfl ?_
                          refine yG ?_
                          exact ⟨s.length - (i + 1 + (run t).length), by omega, i + 1 + (run t).length, [], _, rfl, by omega, by simp, hD, GV.nil, rfl⟩
                        · have hpos : 0 < w.length := by cases w with
                            | nil => exact absurd rfl hw0
                            | cons => simp
                          refine yG ?_
                          refine OS.fresh rfl (e_append0_txt (bts := 1) (s := w) (n := w.length) rfl rfl rfl rfl (by omega) (by omega) hpos) (fun _ => rfl) (fun r2 => ?_)
                          refine yG ?_
                          exact ⟨s.length - (i + 1 + (run t).length), by omega, i + 1 + (run t).length, w, _, rfl, by omega, by simpa using hal2, hD, GV.of (by rw [byteCells_len]; omega), rfl⟩
                      · refine yG ?_
                        refine OS.fresh rfl (e_append_txt 0 (bts := 1) (s := w) (n := w.length) (len := acc.length) rfl rfl rfl rfl (by omega) (by omega) rfl (cut_all (by rw [byteCells_len]; omega)) rfl) (fun _ => rfl) (fun r2 => ?_)
                        refine yG ?_
                        exact ⟨s.length - (i + 1 + (run t).length), by omega, i + 1 + (run t).length, acc ++ w, _, rfl, by omega, hal2, hD, gv_app, rfl⟩
    · have b36 : (!ieqB (c.toNat : Nat) 36) = true := by rw [cmp_u8 (k := 36) c 36 rfl]; simpa using h36
      rw [hdr, sub_plain (Xp.look l) h36, pre_pre] at hD
      refine yG ?_
      refine OS.fresh rfl (e_new (fun _ => rfl) rfl) (fun _ => rfl) (fun rn => ?_)
      refine OS.fresh rfl (e_appendGV [_] (m := 1) (sz := 1) (bts := 1) hg (SV.row (sz := 1) (n := 1) (List.mem_cons_self ..) rfl) (by omega) rfl rfl rfl rfl (by omega) (by omega)) (fun _ => rfl) (fun r2 => ?_)
      refine OS.sub (Sub.drop 1 rfl) ?_
      refine yG ?_
      refine LS.exit ?_
      exact ⟨s.length - (i + 1), by omega, i + 1, acc ++ [c], _, rfl, by omega, by simp; omega, hD, gv_app (w := [c]), rfl⟩
  · have hc := nlt_of hc
    obtain rfl : i = s.length := by omega
    rw [List.drop_length, sub_nil] at hD
    have hsub : subst (Xp.look l) s = if 400 < acc.length then .error 40 else .ok acc := by
      unfold subst; rw [hD]; simp [pre]
    rw [hsub]
    refine LS.exit ?_
    by_cases h400 : 400 < acc.length
    · have q1 : (!ileB ((acc.length : Nat) : Int) 400) = true := by rw [ileB_eq]; simp; omega
      rw [if_pos h400]
      refine yG ?_
      refine OS.pure rfl (e_len hg.sv rfl rfl rfl rfl rfl) rfl ?_
      refine yG ?_
      exact ⟨rfl, gv_drop hg⟩
    · have q1 : (!ileB ((acc.length : Nat) : Int) 400) = false := by rw [ileB_eq]; simp; omega
      rw [if_neg h400]
      refine yG ?_
      refine OS.pure rfl (e_len hg.sv rfl rfl rfl rfl rfl) rfl ?_
      refine yG ?_
      refine OS.read rfl (e_textSV hg.sv rfl rfl rfl rfl rfl) rfl ?_
      refine yG ?_
      exact ⟨rfl, gv_drop hg⟩
end Go.Proofs.Ytllcbjaajffaeaa
