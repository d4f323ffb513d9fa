/- Layer 12: a new draft; a line is read. -/
import Derived.Test.YtoadplnbajmcbaaGreatDoorRm
import Derived.Test.YtoadplnbajmcbaaGreatDoorWlM
namespace Go.Proofs.YtoadplnbajmcbaaGreatDoor
open Go.Am Go.Pd
set_option linter.unusedVariables false
set_option maxRecDepth 20000
set_option maxHeartbeats 4000000
attribute [local irreducible] OS LSr ODS CS YS
/-- What words.Split answers. -/
def spD (s : W) : Except Nat (List W) := if s.length > 400 then .error 40 else match splitW s with
  | none => .error 4
  | some ws => .ok ws
theorem splF_bound : ∀ (f : Nat) (s : W) (ws : List W), splF f s = some ws → ws.length ≤ s.length ∧ ∀ w, w ∈ ws → w.length ≤ s.length
  | 0, _, _, h => by cases h
  | f + 1, [], ws, h => by simp [splF] at h; subst h; simp
  | f + 1, c :: t, ws, h => by
    simp only [splF] at h
    split at h
    · split at h
      · cases h
      · simp at h; subst h; simp
    · split at h
      · cases h
      · rename_i h1 h2
        have hlt := next_lt h2
        have hw := (word_le (c :: t)).2
        cases hx : splF f (((c :: t).drop (wordK (c :: t)).2).dropWhile isBl) with
        | none => rw [hx] at h; cases h
        | some vs =>
          rw [hx] at h
          simp at h
          subst h
          have hb := splF_bound f _ vs hx
          simp only [List.length_cons] at hlt hw ⊢
          refine ⟨by omega, fun w hm => ?_⟩
          rcases List.mem_cons.1 hm with rfl | hm
          · exact hw
          · have := hb.2 w hm; omega
theorem splitW_bound {s : W} {ws : List W} (h : splitW s = some ws) : ws.length ≤ s.length ∧ ∀ w, w ∈ ws → w.length ≤ s.length := by
  have h1 := dw_le s
  have h2 := splF_bound _ _ _ h
  exact ⟨by omega, fun w hm => by have := h2.2 w hm; omega⟩
theorem sp_cases (s : W) : (∃ e, e ≠ 0 ∧ spD s = .error e ∧ errOf s = (e : Nat) ∧ wordsOf s = []) ∨ (∃ ws, spD s = .ok ws ∧ errOf s = 0 ∧ wordsOf s = ws ∧ ws.length ≤ 400 ∧ ∀ w, w ∈ ws → w.length ≤ 400) := by
  unfold spD errOf wordsOf
  by_cases h : s.length > 400
  · rw [if_pos h, if_pos h, if_pos h]; exact .inl ⟨40, by decide, rfl, rfl, rfl⟩
  · rw [if_neg h, if_neg h, if_neg h]
    cases hs : splitW s with
    | none => exact .inl ⟨4, by decide, rfl, rfl, rfl⟩
    | some ws =>
      have := splitW_bound hs
      exact .inr ⟨ws, rfl, rfl, rfl, by omega, fun w hm => by have := this.2 w hm; omega⟩
/-- A line. -/
def readE (d : Dc) (no : Int) (s : W) : Except Nat Dc := match spD s with
  | .error e => .error e
  | .ok [] => .ok d
  | .ok (w :: a) => LN d no w a
section
variable {F L Y B : RL} {rd : Nat} {d : Dc}
theorem DS.row (h : DS rd d Y B F L) (x : Nat × ARow) : ∃ L', Sub L' (x :: L) ∧ DS rd d (x :: Y) B F L' := by
  obtain ⟨rr, rc, rs, es, ck, ec, kc, em, km, hv, sv, HY, SY, IY, fc, fm, rfl, hBF, hok, hR, hC, hM, hD⟩ := h.ex
  refine ⟨(rd, dRow hv sv rr rc rs) :: (rr, .map es ck) :: (rc, .map ec kc) :: (rs, .map em km) :: (HY ++ (SY ++ (IY ++ ((x :: Y) ++ F)))), Sub.sums fun f => by simp <;> omega, ⟨rr, rc, rs, es, ck, ec, kc, em, km, hv, sv, HY, SY, IY, fc, fm, rfl, hBF, hok, hR.mono fun p hp => List.mem_cons_of_mem _ hp, hC, hM, hD.mono fun p hp => List.mem_cons_of_mem _ hp⟩⟩
theorem DS.ends (h : DS rd d Y B F L) : Ends F L := by
  obtain ⟨rr, rc, rs, es, ck, ec, kc, em, km, hv, sv, HY, SY, IY, fc, fm, rfl, _⟩ := h.ex
  repeat (first | exact Ends.nil | apply Ends.cons | apply Ends.app)
theorem newDraft_ct {g : Gn} (hG : GL g F) (hG0 : GL g B) (hBF : ∀ p, p ∈ B → p ∈ F) : CS Tryz.prog 78 [] F fun v L' => ∃ rd Y, v = ptr rd ∧ DS rd ⟨[], []⟩ Y B F L' := by
  refine CS.mk (fn := Tryz.f78) rfl rfl rfl rfl ?_
  refine yG ?_
  refine OS.call noGo rfl (fun _ => rfl) ((rules_ct hG hG0).mono ?_)
  rintro v L' ⟨rr, es, ck, Y, rfl, rfl, hR⟩
  refine ⟨_, rfl, ?_⟩
  refine yG ?_
  refine OS.fresh rfl (e_makeMap rfl rfl rfl) (fun _ => rfl) (fun rc => ?_)
  refine yG ?_
  refine OS.fresh rfl (e_makeMap rfl rfl rfl) (fun _ => rfl) (fun rs => ?_)
  refine yG ?_
  refine OS.fresh rfl (e_new (fun _ => rfl) rfl) (fun _ => rfl) (fun rd => ?_)
  show OS _ _ _ _ ((rd, dRow (.slice none 0 0) (.slice none 0 0) rr rc rs) :: _) _
  refine OS.sub (Sub.pulls [1, 2, 3, 3] rfl) ?_
  refine yG ?_
  refine ⟨rd, Y, rfl, ⟨rr, rc, rs, es, ck, [], 0, [], 0, .slice none 0 0, .slice none 0 0, [], [], [], fun _ => none, fun _ => none, rfl, hBF, ⟨by simp, by simp, rfl, by decide, by decide⟩, hR, ⟨MapIs.nil, fun c _ => .inl ⟨rfl, rfl⟩⟩, ⟨MapIs.nil, fun k v h => (by cases h), ⟨fun w n _ => by simp, fun w a _ _ h => absurd rfl h, fun _ _ _ => rfl⟩⟩, .none GV.nil rfl⟩⟩
theorem dread_ct {no : Int} {s : W} (h : DS rd d Y B F L) (hs : s.length ≤ 9000000000000000) : CS Tryz.prog 79 [ptr rd, .int .i64 no, str s] L fun v L' => Res rd B F (readE d no s) v L' := by
  suffices h2 : CS Tryz.prog 79 [ptr rd, .int .i64 no, str s] L fun v L' => ∃ L₁, Sub L₁ L' ∧ Res rd B F (readE d no s) v L₁ from h2.less fun v L' h => h
  refine CS.mk (fn := Tryz.f79) rfl rfl rfl rfl ?_
  refine yG ?_
  refine OS.call noGo rfl (fun _ => rfl) ((Split_ct s hs).mono ?_)
  rintro v L' ⟨u, rfl, hg⟩
  rcases sp_cases s with ⟨e, he, h1, h2, h3⟩ | ⟨ws, h1, h2, h3, h4, h5⟩
  · rw [h2]
    rw [h3] at hg
    have hb : (!ieqB ((e : Nat) : Int) 0) = true := by rw [ieqB_eq]; simp; omega
    unfold readE
    rw [h1]
    refine ⟨_, rfl, ?_⟩
    refine yG ?_
    have hE : Ends F L' := by rcases hg with ⟨_, _, _, rfl⟩ | ⟨r, _, _, rfl⟩; exact h.ends; exact h.ends.cons
    exact ⟨L', Sub.drops 0 rfl, (errV_ne he).symm, he, hE⟩
  · rw [h2]
    rw [h3] at hg
    unfold readE
    rw [h1]
    cases ws with
    | nil =>
      rcases hg with ⟨rfl, _, _, rfl⟩ | ⟨r, rfl, _, rfl⟩
      · refine ⟨_, rfl, ?_⟩
        refine yG ?_
        exact ⟨_, Sub.drops 0 rfl, rfl, Y, h⟩
      · obtain ⟨L2, hs2, h2⟩ := h.row (r, .cells 9 (strs []))
        refine ⟨_, rfl, ?_⟩
        refine yG ?_
        exact ⟨L2, hs2, rfl, _, h2⟩
    | cons w a =>
      have hb : ieqB (((w :: a).length : Nat) : Int) 0 = false := by rw [ieqB_eq]; simp; omega
      rcases hg with ⟨rfl, h6, _, rfl⟩ | ⟨r, rfl, h6, rfl⟩
      · simp at h6
      · obtain ⟨L2, hs2, h7⟩ := h.row (r, .cells 9 (strs (w :: a)))
        refine ⟨_, rfl, ?_⟩
        refine yG ?_
        refine OS.sub hs2 ?_
        refine OS.call noGo rfl (fun _ => rfl) ((take_ct h7 (.inr ⟨r, 0, openCap, _, _, rfl, List.mem_cons_self .., rfl, cut_all h6, .inl ⟨rfl, rfl, allS_strs _⟩⟩) (by simp at h4; omega) (fun x hx => by have := h5 x hx; omega)).mono ?_)
        intro v L' hres
        refine ⟨_, rfl, ?_⟩
        refine yG ?_
        exact ⟨L', Sub.drops 0 rfl, hres⟩
end
end Go.Proofs.YtoadplnbajmcbaaGreatDoor
