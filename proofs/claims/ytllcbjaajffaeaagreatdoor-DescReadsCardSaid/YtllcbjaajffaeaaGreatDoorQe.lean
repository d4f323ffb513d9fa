import Derived.Test.YtllcbjaajffaeaaGreatDoorQsM
import Derived.Test.YtllcbjaajffaeaaGreatDoorWhM
namespace Go.Proofs.YtllcbjaajffaeaaGreatDoor
set_option linter.unusedSimpArgs false
open Go.Am Go.Pd
set_option linter.unusedVariables false
set_option maxRecDepth 20000
set_option maxHeartbeats 8000000
attribute [local irreducible] OS LSr ODS CS YS
theorem segs_one : ∀ {a : W}, 10 ∉ a → segs a = [a]
  | [], _ => rfl
  | c :: a, h => by
    have h1 : c ≠ 10 := fun e => h (by simp [e])
    have h2 : 10 ∉ a := fun e => h (by simp [e])
    simp only [segs, if_neg h1, segs_one h2]
section
variable {F L Y B : RL} {d : Dc} {v : Value}
def PI2 (s : W) (R : Except (Nat × Nat) Dc) (i f no : Nat) (d : Dc) : Prop := (i ≤ s.length ∧ 10 ∉ (s.drop f).take (i - f) ∧ R = readL chk spD no d (segs (s.drop f))) ∨ (i = s.length + 1 ∧ R = .ok d)
theorem PI2.cut {s : W} {R : Except (Nat × Nat) Dc} {i f no : Nat} {d : Dc} (hi : i ≤ s.length) (hf : f ≤ i) (hn : 10 ∉ (s.drop f).take (i - f)) (hR : R = readL chk spD no d (segs (s.drop f))) (hb : (∃ b, s[i]? = some b ∧ b = 10) ∨ i = s.length) :
    ∃ rest, R = (match readE d (no : Int) ((s.drop f).take (i - f)) with | .error e => .error (no, e) | .ok d' => readL chk spD (no + 1) d' rest) ∧ ∀ d', readL chk spD (no + 1) d' rest = R → PI2 s R (i + 1) (i + 1) (no + 1) d' := by
  rcases hb with ⟨b, hb, rfl⟩ | rfl
  · have hlt := (List.getElem?_eq_some_iff.1 hb).1
    have e : s.drop f = (s.drop f).take (i - f) ++ 10 :: s.drop (i + 1) := by
      conv => lhs; rw [← List.take_append_drop (i - f) (s.drop f)]
      rw [List.drop_drop, show f + (i - f) = i by omega, List.drop_eq_getElem_cons hlt, (List.getElem?_eq_some_iff.1 hb).2]
    have e2 : segs (s.drop f) = (s.drop f).take (i - f) :: segs (s.drop (i + 1)) := by
      conv => lhs; rw [e]
      exact segs_at hn
    refine ⟨segs (s.drop (i + 1)), ?_, fun d' h => .inl ⟨by omega, by simp, h.symm⟩⟩
    rw [hR, e2, readL_E]; rfl
  · have e : (s.drop f).take (s.length - f) = s.drop f := List.take_of_length_le (by simp)
    rw [e] at hn ⊢
    refine ⟨[], ?_, fun d' h => .inr ⟨rfl, ?_⟩⟩
    · rw [hR, segs_one hn, readL_E]; rfl
    · rw [← h, readL]
theorem PI2.on {s : W} {R : Except (Nat × Nat) Dc} {i f no : Nat} {d : Dc} {b : UInt8} (hf : f ≤ i) (hn : 10 ∉ (s.drop f).take (i - f)) (hR : R = readL chk spD no d (segs (s.drop f))) (hb : s[i]? = some b) (h10 : b ≠ 10) : PI2 s R (i + 1) f no d := by
  have hlt := (List.getElem?_eq_some_iff.1 hb).1
  refine .inl ⟨by omega, ?_, hR⟩
  have hg : (s.drop f)[i - f]? = some b := by rw [List.getElem?_drop, show f + (i - f) = i by omega]; exact hb
  rw [show i + 1 - f = (i - f) + 1 by omega, Go.Pd.take_one hg]
  simp only [List.mem_append, List.mem_singleton, not_or]
  exact ⟨hn, fun h => h10 h.symm⟩
theorem refParse_ct {s : W} (hs : s.length ≤ 1000000000000) : CS Tryz.prog 12 [str s] F fun v L' => match readL chk spD 1 ⟨[], []⟩ (segs s) with
    | .error (no, e) => v = .tuple #[.agg #[.slice none 0 0, .slice none 0 0], .int .i64 (no : Nat), .int .i64 (e : Nat)] ∧ Ends F L'
    | .ok d => ∃ u Z, v = .tuple #[u, .int .i64 0, .int .i64 0] ∧ L' = Z ++ F ∧ DocV (Z ++ []) u d := by
  generalize hR1 : readL chk spD 1 ⟨[], []⟩ (segs s) = R
  refine CS.mk (fn := Tryz.f12) rfl rfl rfl rfl ?_
  refine yG ?_
  refine OS.fresh rfl (e_new (fun _ => rfl) rfl) (fun _ => rfl) (fun r2 => ?_)
  show OS _ _ _ _ ((r2, ARow.cells tDd [.slice none 0 0, .slice none 0 0]) :: _) _
  refine yG ?_
  refine OS.fresh rfl (e_new (fun _ => rfl) rfl) (fun _ => rfl) (fun r5 => ?_)
  show OS _ _ _ _ ((r5, ARow.cells tDd [.slice none 0 0, .slice none 0 0]) :: _) _
  refine yG ?_
  refine LS.loopJ [0, 2, 5, 6, 7, 8] (fun q a L' => ∃ (i f no : Nat) (d : Dc) (hA : Option Addr) (hn hc : Nat) (sA : Option Addr) (sn sc : Nat) (Y C : RL), q = s.length + 1 - i ∧ i ≤ s.length + 1 ∧ f ≤ i ∧ no ≤ i + 1 ∧ PI2 s R i f no d ∧ RX2 (.agg #[.slice hA hn hc, .slice sA sn sc]) d Y [] C ∧ L' = (r5, .cells tDd [.slice hA hn hc, .slice sA sn sc]) :: (r2, .cells tDd [.slice none 0 0, .slice none 0 0]) :: (C ++ F) ∧
    a = [str s, .chan none, ptr r2, .chan none, .chan none, ptr r5, .int .i64 (f : Nat), .int .i64 (no : Nat), .int .i64 (i : Nat), .chan none, .chan none, .chan none, .chan none, .chan none, .chan none, .chan none, .chan none, .chan none, .chan none, .chan none, .chan none, .chan none, .chan none, .chan none, .chan none, .chan none, .chan none, .chan none, .chan none, .chan none, .chan none, .chan none, .chan none, .chan none, .chan none, .chan none, .chan none, .chan none, .chan none, .chan none, .chan none, .chan none, .chan none, .chan none, .chan none, .chan none, .chan none, .chan none, .chan none, .chan none, .chan none, .chan none, .chan none, .chan none, .chan none, .chan none, .chan none, .chan none, .chan none]) (n := s.length + 1) rfl ⟨0, 0, 1, ⟨[], []⟩, none, 0, 0, none, 0, 0, [], [], by omega, by omega, by omega, by omega, .inl ⟨by omega, by simp, hR1.symm⟩, .nil, rfl, rfl⟩ ?_
  rintro q a L' ⟨i, f, no, d, hA, hn, hc, sA, sn, sc, Y, C, rfl, hi, hf, hno, hPI, hX, rfl, rfl⟩
  by_cases hin : i ≤ s.length
  · have hb : ileB ((i : Nat) : Int) (s.length : Nat) = true := by rw [ileB_eq]; simp; omega
    obtain ⟨h10, hR⟩ : 10 ∉ (s.drop f).take (i - f) ∧ R = readL chk spD no d (segs (s.drop f)) := by
      rcases hPI with h | h
      · exact h.2
      · omega
    by_cases hon : ∃ b, s[i]? = some b ∧ b ≠ 10
    · obtain ⟨b, hbi, hb10⟩ := hon
      have hlt := (List.getElem?_eq_some_iff.1 hbi).1
      have hb2 : (!ileB ((s.length : Nat) : Int) (i : Nat)) = true := by rw [ileB_eq]; simp; omega
      have hb3 : (!ieqB ((b.toNat : Nat) : Int) 10) = true := by rw [cmp_u8 (k := 10) b 10 rfl]; simpa using hb10
      refine yG ?_
      refine LS.exit ?_
      refine yG ?_
      exact ⟨s.length + 1 - (i + 1), by omega, i + 1, f, no, d, hA, hn, hc, sA, sn, sc, Y, C, rfl, by omega, by omega, by omega, PI2.on hf h10 hR hbi hb10, hX, rfl, rfl⟩
    have hend : ((∃ b, s[i]? = some b ∧ b = 10) ∨ i = s.length) ∧ (((!ileB ((s.length : Nat) : Int) (i : Nat)) = false) ∨ ((!ileB ((s.length : Nat) : Int) (i : Nat)) = true ∧ ∃ b, s[i]? = some b ∧ (!ieqB ((b.toNat : Nat) : Int) 10) = false)) := by
      rcases Nat.lt_or_ge i s.length with hlt | hge
      · have hbi := List.getElem?_eq_getElem hlt
        have h1 : s[i] = 10 := Classical.byContradiction fun h => hon ⟨_, hbi, h⟩
        refine ⟨.inl ⟨_, hbi, h1⟩, .inr ⟨by rw [ileB_eq]; simp; omega, _, hbi, by rw [h1]; rfl⟩⟩
      · exact ⟨.inr (by omega), .inl (by rw [ileB_eq]; simp; omega)⟩
    obtain ⟨rest, hE, hnext⟩ := PI2.cut hin hf h10 hR hend.1
    obtain ⟨_, hend⟩ := hend
    have hal : ((s.drop f).take (i - f)).length ≤ 1000000000000 := by simp; omega
    rcases hend with hb2 | ⟨hb2, b, hbi, hb3⟩
    all_goals
      refine yG ?_
      refine OS.pure rfl (e_part (l := f) (u := i) rfl rfl rfl rfl bound_nat bound_nat rfl (by omega) (by omega)) rfl ?_
      generalize (s.drop f).take (i - f) = g at hE hal
      refine OS.call noGo rfl (fun _ => rfl) ((refSplit_ct g (by omega)).mono ?_)
      rintro v L' hsp
      obtain ⟨u, rfl, hg⟩ := hsp.sq
      rcases sp_cases g with ⟨e, he, h1, h2, h3⟩ | ⟨ws, h1, h2, h3, h4, h5⟩
      · rw [h2]
        rw [h3] at hg
        have hbz : ieqB ((e : Nat) : Int) 0 = false := by rw [ieqB_eq]; simp; omega
        have hbn : (!ieqB ((e : Nat) : Int) 0) = true := by rw [hbz]; rfl
        have hE2 : R = .error (no, e) := by rw [hE]; unfold readE; rw [h1]
        refine ⟨_, rfl, ?_⟩
        have hL : Sub ((r5, .cells tDd [.slice hA hn hc, .slice sA sn sc]) :: (r2, .cells tDd [.slice none 0 0, .slice none 0 0]) :: (C ++ F)) L' := by
          rcases hg with ⟨_, _, _, rfl⟩ | ⟨r, _, _, rfl⟩
          · exact Sub.drops 0 rfl
          · exact Sub.drops 1 rfl
        refine OS.sub hL ?_
        refine yG ?_
        refine LS.ret ⟨_, res_c3 1 rfl rfl rfl rfl rfl rfl, ?_⟩
        rw [hE2]
        exact ⟨rfl, by repeat (first | exact Ends.nil | apply Ends.cons | apply Ends.app)⟩
      · rw [h2]
        rw [h3] at hg
        cases ws with
        | nil =>
          have hE2 : readL chk spD (no + 1) d rest = R := by rw [hE]; unfold readE; rw [h1]
          have hsv := hg.sv
          refine ⟨_, rfl, ?_⟩
          have hL : Sub ((r5, .cells tDd [.slice hA hn hc, .slice sA sn sc]) :: (r2, .cells tDd [.slice none 0 0, .slice none 0 0]) :: (C ++ F)) L' := by
            rcases hg with ⟨_, _, _, rfl⟩ | ⟨r, _, _, rfl⟩
            · exact Sub.drops 0 rfl
            · exact Sub.drops 1 rfl
          refine OS.sub hL ?_
          refine yG ?_
          exact ⟨s.length + 1 - (i + 1), by omega, i + 1, i + 1, no + 1, d, hA, hn, hc, sA, sn, sc, Y, C, rfl, by omega, by omega, by omega, hnext d hE2, hX, rfl, rfl⟩
        | cons w a =>
          have hb4 : (!ileB (((w :: a).length : Nat) : Int) 0) = true := by rw [ileB_eq]; simp
          rcases hg with ⟨rfl, h6, _, rfl⟩ | ⟨r, rfl, h6, rfl⟩
          · simp at h6
          have hsv : SV 1 ((r, .cells 9 (strs (w :: a))) :: []) (.slice (some ⟨r, 0, none⟩) (w :: a).length openCap) (w :: a).length (strs (w :: a)) := .inr ⟨r, 0, openCap, _, _, rfl, List.mem_cons_self .., rfl, cut_all h6⟩
          obtain ⟨C', hC', hs'⟩ := hX.row (r, .cells 9 (strs (w :: a)))
          refine ⟨_, rfl, ?_⟩
          refine yG ?_
          refine OS.sub (Sub.trans (hs' ((r5, .cells tDd [.slice hA hn hc, .slice sA sn sc]) :: (r2, .cells tDd [.slice none 0 0, .slice none 0 0]) :: F)) (Sub.sums (B := (r, .cells 9 (strs (w :: a))) :: (r5, .cells tDd [.slice hA hn hc, .slice sA sn sc]) :: (r2, .cells tDd [.slice none 0 0, .slice none 0 0]) :: (C ++ F)) fun f => by simp <;> omega)) ?_
          refine OS.call noGo rfl (fun _ => rfl) ((line_ct (hC' _ fun p hp => by cases hp) (.inr ⟨r, 0, openCap, _, _, rfl, List.mem_cons_self .., rfl, cut_all h6, .inl ⟨rfl, rfl, allS_strs _⟩⟩) (by simp at h4; omega) (fun x hx => by have := h5 x hx; omega)).mono ?_)
          intro v L' hres
          have hE3 : R = (match LN d (no : Int) w a with | .error e => .error (no, e) | .ok d' => readL chk spD (no + 1) d' rest) := by rw [hE]; unfold readE; rw [h1]
          cases hl : LN d (no : Int) w a with
          | error e =>
            rw [hl] at hres hE3
            obtain ⟨⟨A1, n1, d1, A2, n2, d2, rfl⟩, hne, Z, rfl⟩ := hres
            have hbn : (!ieqB ((e : Nat) : Int) 0) = true := by rw [ieqB_eq]; simp; omega
            refine ⟨_, rfl, ?_⟩
            refine OS.sub (Sub.sums (A := (r5, .cells tDd [.slice hA hn hc, .slice sA sn sc]) :: (r2, .cells tDd [.slice none 0 0, .slice none 0 0]) :: (Z ++ F)) fun f => by simp <;> omega) ?_
            refine yG ?_
            refine LS.ret ⟨_, res_c3 1 rfl rfl rfl rfl rfl rfl, ?_⟩
            rw [hE3]
            exact ⟨rfl, by repeat (first | exact Ends.nil | apply Ends.cons | apply Ends.app)⟩
          | ok d' =>
            rw [hl] at hres hE3
            obtain ⟨v', Y', rfl, hS'⟩ := hres
            obtain ⟨A1, n1, d1, A2, n2, d2, rfl⟩ := hS'.form
            obtain ⟨C2, rfl, hX2⟩ := hS'.dx
            refine ⟨_, rfl, ?_⟩
            refine OS.sub (Sub.sums (A := (r5, .cells tDd [.slice hA hn hc, .slice sA sn sc]) :: (r2, .cells tDd [.slice none 0 0, .slice none 0 0]) :: (C2 ++ F)) fun f => by simp <;> omega) ?_
            refine yG ?_
            exact ⟨s.length + 1 - (i + 1), by omega, i + 1, i + 1, no + 1, d', A1, n1, d1, A2, n2, d2, Y', C2, rfl, by omega, by omega, by omega, hnext d' hE3.symm, hX2, rfl, rfl⟩
  · have hb : ileB ((i : Nat) : Int) (s.length : Nat) = false := by rw [ileB_eq]; simp; omega
    have hR : R = .ok d := by
      rcases hPI with h | h
      · omega
      · exact h.2
    refine yG ?_
    refine LS.exit ?_
    refine yG ?_
    refine LS.ret ⟨_, res_c3 1 rfl rfl rfl rfl rfl rfl, ?_⟩
    rw [hR]
    exact ⟨_, (r5, _) :: (r2, _) :: C, rfl, rfl, (hX.docV (F := []) fun p hp => by cases hp).mono fun p hp => List.mem_cons_of_mem _ (List.mem_cons_of_mem _ hp)⟩
end
end Go.Proofs.YtllcbjaajffaeaaGreatDoor
