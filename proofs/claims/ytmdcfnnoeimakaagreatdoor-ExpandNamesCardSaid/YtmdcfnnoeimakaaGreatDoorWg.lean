/- Layer 2: Split. -/
import Derived.Test.YtmdcfnnoeimakaaGreatDoorWf
namespace Go.Proofs.YtmdcfnnoeimakaaGreatDoor
open Go.Am
set_option linter.unusedVariables false
set_option maxRecDepth 20000

def strs (ws : List (List UInt8)) : List Value := ws.map fun w => str w
theorem strs_len (ws : List (List UInt8)) : (strs ws).length = ws.length := by simp [strs]
theorem strs_snoc (ws : List (List UInt8)) (w : List UInt8) : strs (ws ++ [w]) = strs ws ++ [str w] := by simp [strs]
/-- The words of a line that begins with no blank. -/
def splF : Nat → List UInt8 → Option (List (List UInt8))
  | 0, _ => none
  | _ + 1, [] => some []
  | f + 1, c :: t =>
    if c = 35 then if (c :: t).contains 10 then none else some []
    else if (c :: t).drop (wordK (c :: t)).2 ≠ [] ∧ ((c :: t).drop (wordK (c :: t)).2).dropWhile isBl = (c :: t).drop (wordK (c :: t)).2 then none
    else (splF f (((c :: t).drop (wordK (c :: t)).2).dropWhile isBl)).map ((wordK (c :: t)).1 :: ·)
def spl (s : List UInt8) : Option (List (List UInt8)) := splF (s.length + 1) s
theorem dw_le (s : List UInt8) : (s.dropWhile isBl).length ≤ s.length := (List.dropWhile_suffix isBl).length_le
theorem next_lt {c : UInt8} {t : List UInt8} (h : ¬ ((c :: t).drop (wordK (c :: t)).2 ≠ [] ∧ ((c :: t).drop (wordK (c :: t)).2).dropWhile isBl = (c :: t).drop (wordK (c :: t)).2)) : (((c :: t).drop (wordK (c :: t)).2).dropWhile isBl).length < (c :: t).length := by
  have h1 := dw_le ((c :: t).drop (wordK (c :: t)).2)
  by_cases h0 : (wordK (c :: t)).2 = 0
  · rw [h0, List.drop_zero] at h ⊢
    by_cases hb : isBl c = true
    · have := dw_le t
      simp only [List.dropWhile_cons, hb, if_true, List.length_cons]; omega
    · exfalso; exact h ⟨by simp, by simp [hb]⟩
  · rw [List.length_drop] at h1
    simp only [List.length_cons] at h1 ⊢; omega
theorem spl_fuel : ∀ (f g : Nat) (s : List UInt8), s.length < f → s.length < g → splF f s = splF g s
  | 0, _, s, h, _ => by omega
  | _ + 1, 0, s, _, h => by omega
  | f + 1, g + 1, [], _, _ => rfl
  | f + 1, g + 1, c :: t, hf, hg => by
    simp only [splF]
    split
    · rfl
    · split
      · rfl
      · rename_i h1 h2
        have := next_lt h2
        rw [spl_fuel f g _ (by omega) (by omega)]
theorem spl_hash {t : List UInt8} : spl (35 :: t) = if (35 :: t).contains 10 then none else some [] := by simp [spl, splF]
theorem spl_bad {c : UInt8} {t : List UInt8} (hc : c ≠ 35) (h : (c :: t).drop (wordK (c :: t)).2 ≠ [] ∧ ((c :: t).drop (wordK (c :: t)).2).dropWhile isBl = (c :: t).drop (wordK (c :: t)).2) : spl (c :: t) = none := by
  unfold spl
  rw [splF, if_neg hc, if_pos h]
theorem spl_more {c : UInt8} {t : List UInt8} (hc : c ≠ 35) (h : ¬ ((c :: t).drop (wordK (c :: t)).2 ≠ [] ∧ ((c :: t).drop (wordK (c :: t)).2).dropWhile isBl = (c :: t).drop (wordK (c :: t)).2)) : spl (c :: t) = (spl (((c :: t).drop (wordK (c :: t)).2).dropWhile isBl)).map ((wordK (c :: t)).1 :: ·) := by
  have := next_lt h
  unfold spl
  rw [splF, if_neg hc, if_neg h, spl_fuel ((c :: t).length) _ _ this (Nat.lt_succ_self _)]
/-- What Split answers: the words, or its refusal. -/
def splitW (s : List UInt8) : Option (List (List UInt8)) := spl (s.dropWhile isBl)
def SP (s : List UInt8) (L : RL) (v : Value) (L' : RL) : Prop :=
  (s.length > 400 ∧ v = .tuple #[.slice none 0 0, .int .i64 40] ∧ L' = L) ∨
  (s.length ≤ 400 ∧ splitW s = none ∧ v = .tuple #[.slice none 0 0, .int .i64 4] ∧ L' = L) ∨
  (s.length ≤ 400 ∧ ∃ ws u, splitW s = some ws ∧ v = .tuple #[u, .int .i64 0] ∧ GV 9 1 L u ws.length (strs ws) L')
theorem GV.less {e : TypeId} {n : Nat} {F L : RL} {v : Value} {cs : List Value} (g : GV e 1 F v n cs L) : Sub F L := by
  rcases g with ⟨_, _, _, rfl⟩ | ⟨r, _, _, rfl⟩
  · exact ⟨[], by simp⟩
  · exact Sub.tail
theorem split_ct {L : RL} {rm : Nat} (hm : (rm, .map (digE 16) 16) ∈ L) (s : List UInt8) (hs : s.length ≤ 9000000000000000) :
    CS Tryz.prog 94 [str s, .map (some rm)] L fun v L' => SP s L v L' := by
  suffices h : CS Tryz.prog 94 [str s, .map (some rm)] L fun v L' => (s.length > 400 ∧ v = .tuple #[.slice none 0 0, .int .i64 40] ∧ L' = L) ∨
      (s.length ≤ 400 ∧ splitW s = none ∧ v = .tuple #[.slice none 0 0, .int .i64 4] ∧ Sub L L') ∨
      (s.length ≤ 400 ∧ ∃ ws u, splitW s = some ws ∧ v = .tuple #[u, .int .i64 0] ∧ GV 9 1 L u ws.length (strs ws) L') by
    refine h.less fun v L' h => ?_
    rcases h with ⟨h1, h2, rfl⟩ | ⟨h1, h2, h3, h4⟩ | h
    · exact ⟨_, ⟨[], by simp⟩, .inl ⟨h1, h2, rfl⟩⟩
    · exact ⟨L, h4, .inr (.inl ⟨h1, h2, h3, rfl⟩)⟩
    · exact ⟨L', ⟨[], by simp⟩, .inr (.inr h)⟩
  by_cases hl : s.length > 400
  · have b1 : (!ileB (s.length : Int) 400) = true := by rw [ileB_eq]; simp; omega
    refine CS.mk (fn := Tryz.f94) rfl rfl rfl rfl ?_
    repeat refine LS.seq ?_
    refine LS.region rfl ?_
    refine OS.pure rfl (fun _ => rfl) rfl ?_
    refine OS.pure rfl (fun _ => rfl) rfl ?_
    refine OS.nil ?_
    repeat refine LS.seq ?_
    refine LS.region rfl ?_
    refine OS.pure rfl (fun _ => rfl) rfl ?_
    refine OS.pure rfl (fun _ => rfl) rfl ?_
    refine OS.pure rfl (e_is (fun _ => rfl) (congrArg Value.bool b1)) rfl ?_
    refine OS.nil ?_
    repeat refine LS.seq ?_
    refine LS.cond rfl (fun hc => ?_) (fun hc => ?_)
    · repeat refine LS.seq ?_
      refine LS.region rfl ?_
      refine OS.pure rfl (fun _ => rfl) rfl ?_
      refine OS.pure rfl (fun _ => rfl) rfl ?_
      refine OS.nil ?_
      refine LS.ret ⟨_, fun _ _ => rfl, ?_⟩
      exact .inl ⟨hl, rfl, rfl⟩
    · cases hc
  have b1 : (!ileB (s.length : Int) 400) = false := by rw [ileB_eq]; simp; omega
  refine CS.mk (fn := Tryz.f94) rfl rfl rfl rfl ?_
  repeat refine LS.seq ?_
  refine LS.region rfl ?_
  refine OS.pure rfl (fun _ => rfl) rfl ?_
  refine OS.pure rfl (fun _ => rfl) rfl ?_
  refine OS.nil ?_
  repeat refine LS.seq ?_
  refine LS.region rfl ?_
  refine OS.pure rfl (fun _ => rfl) rfl ?_
  refine OS.pure rfl (fun _ => rfl) rfl ?_
  refine OS.pure rfl (e_is (fun _ => rfl) (congrArg Value.bool b1)) rfl ?_
  refine OS.nil ?_
  repeat refine LS.seq ?_
  refine LS.cond rfl (fun hc => ?_) (fun hc => ?_)
  · cases hc
  refine LS.skip ?_
  repeat refine LS.seq ?_
  refine LS.region rfl ?_
  refine OS.pure rfl (fun _ => rfl) rfl ?_
  refine OS.nil ?_
  repeat refine LS.seq ?_
  refine LS.region rfl ?_
  refine OS.pure rfl (fun _ => rfl) rfl ?_
  refine OS.call noGo rfl (fun _ => rfl) ((TrimLeft_ct s hs).mono ?_)
  rintro v L₀ ⟨rfl, rfl⟩
  refine ⟨_, rfl, ?_⟩
  refine OS.pure rfl (fun _ => rfl) rfl ?_
  refine OS.nil ?_
  have hdl := dw_le s
  repeat refine LS.seq ?_
  refine LS.block ?_
  refine LS.loopJ [1, 6, 7] (fun q a L' => ∃ (ws : List (List UInt8)) (u : Value) (t : List UInt8), q = t.length ∧ t.length ≤ 400 ∧ ws.length + t.length ≤ 400 ∧ splitW s = (spl t).map (ws ++ ·) ∧ GV 9 1 L₀ u ws.length (strs ws) L' ∧ a = [.chan none, .map (some rm), .chan none, .chan none, .chan none, .chan none, u, str t, .chan none, .chan none, .chan none, .chan none, .chan none, .chan none, .chan none, .chan none, .chan none, .chan none, .chan none, .chan none, .chan none, .chan none, .chan none, .chan none, .chan none, .chan none, .chan none, .chan none, .chan none, .chan none, .chan none, .chan none, .chan none, .chan none, .chan none, .chan none, .chan none, .chan none, .chan none, .chan none, .chan none, .chan none, .chan none, .chan none, .chan none, .chan none, .chan none, .chan none]) (n := (s.dropWhile isBl).length) rfl ⟨[], _, s.dropWhile isBl, rfl, by omega, by simp; omega, by simp [splitW], GV.nil, rfl⟩ ?_
  rintro q a L' ⟨ws, u, t, rfl, ht, hw, hsp, hg, rfl⟩
  cases t with
  | nil =>
    repeat refine LS.seq ?_
    refine LS.region rfl ?_
    refine OS.pure rfl (fun _ => rfl) rfl ?_
    refine OS.pure rfl (fun _ => rfl) rfl ?_
    refine OS.pure rfl (fun _ => rfl) rfl ?_
    refine OS.skip rfl rfl ?_
    refine OS.skip rfl rfl ?_
    refine OS.skip rfl rfl ?_
    refine OS.pure rfl (fun _ => rfl) rfl ?_
    refine OS.nil ?_
    repeat refine LS.seq ?_
    refine LS.cond rfl (fun hc => ?_) (fun hc => ?_)
    · cases hc
    refine LS.exit ?_
    repeat refine LS.seq ?_
    refine LS.region rfl ?_
    refine OS.pure rfl (fun _ => rfl) rfl ?_
    refine OS.call noGo rfl (fun _ => rfl) ((ContainsN_ct []).mono ?_)
    rintro v L₁ ⟨rfl, rfl⟩
    refine ⟨_, rfl, ?_⟩
    refine OS.nil ?_
    repeat refine LS.seq ?_
    refine LS.cond rfl (fun hc => ?_) (fun hc => ?_)
    · cases hc
    refine LS.skip ?_
    repeat refine LS.seq ?_
    refine LS.region rfl ?_
    refine OS.pure rfl (fun _ => rfl) rfl ?_
    refine OS.pure rfl (fun _ => rfl) rfl ?_
    refine OS.pure rfl (fun _ => rfl) rfl ?_
    refine OS.nil ?_
    refine LS.ret ⟨_, fun _ _ => rfl, ?_⟩
    exact .inr (.inr ⟨by omega, ws, u, by rw [hsp]; simp [spl, splF], rfl, hg⟩)
  | cons c t =>
    repeat refine LS.seq ?_
    refine LS.region rfl ?_
    refine OS.pure rfl (fun _ => rfl) rfl ?_
    refine OS.pure rfl (fun _ => rfl) rfl ?_
    refine OS.pure rfl (fun _ => rfl) rfl ?_
    refine OS.pure rfl (fun _ => rfl) rfl ?_
    refine OS.pure rfl (e_byte (j := 0) rfl rfl rfl rfl rfl) rfl ?_
    refine OS.pure rfl (fun _ => rfl) rfl ?_
    refine OS.pure rfl (fun _ => rfl) rfl ?_
    refine OS.nil ?_
    repeat refine LS.seq ?_
    refine LS.cond rfl (fun hc => ?_) (fun hc => ?_)
    · have hc : c ≠ 35 := not_u8 35 (by simpa using hc) rfl
      have hle := word_le (c :: t)
      have hwl : (wordK (c :: t)).1.length ≤ 400 := by simp at ht hle ⊢; omega
      refine LS.skip ?_
      repeat refine LS.seq ?_
      refine LS.block ?_
      repeat refine LS.seq ?_
      refine LS.region rfl ?_
      refine OS.pure rfl (fun _ => rfl) rfl ?_
      refine OS.pure rfl (fun _ => rfl) rfl ?_
      refine OS.call noGo rfl (fun _ => rfl) ((wordAt_ct (hg.mem _ hm) c t (by omega)).mono ?_)
      rintro v L₁ ⟨rfl, rfl⟩
      refine ⟨_, rfl, ?_⟩
      refine OS.pure rfl (fun _ => rfl) rfl ?_
      refine OS.pure rfl (fun _ => rfl) rfl ?_
      refine OS.pure rfl (fun _ => rfl) rfl ?_
      refine OS.pure rfl (fun _ => rfl) rfl ?_
      refine OS.pure rfl (fun _ => rfl) rfl ?_
      refine OS.nil ?_
      have hd : ((c :: t).drop (wordK (c :: t)).2).take ((c :: t).length - (wordK (c :: t)).2) = (c :: t).drop (wordK (c :: t)).2 := List.take_of_length_le (by rw [List.length_drop]; omega)
      repeat refine LS.seq ?_
      refine LS.region rfl ?_
      refine OS.pure rfl (fun _ => rfl) rfl ?_
      refine OS.pure rfl (fun _ => rfl) rfl ?_
      refine OS.pure rfl (e_part (s := c :: t) (l := (wordK (c :: t)).2) (u := (c :: t).length) rfl rfl rfl rfl (bound_nat (d := 0)) rfl rfl (Nat.le_refl _) hle.1) rfl ?_
      rw [hd]
      refine OS.pure rfl (fun _ => rfl) rfl ?_
      refine OS.nil ?_
      generalize hbe : (c :: t).drop (wordK (c :: t)).2 = be
      have hbl : be.length ≤ 400 := by rw [← hbe, List.length_drop]; omega
      repeat refine LS.seq ?_
      refine LS.region rfl ?_
      refine OS.pure rfl (fun _ => rfl) rfl ?_
      refine OS.call noGo rfl (fun _ => rfl) ((TrimLeft_ct be (by omega)).mono ?_)
      rintro v L₁ ⟨rfl, rfl⟩
      refine ⟨_, rfl, ?_⟩
      refine OS.pure rfl (fun _ => rfl) rfl ?_
      refine OS.nil ?_
      have hne : ((!bytesEq be []) = true ↔ be ≠ []) := by rw [bytesEq_eq]; simp
      cases be with
      | nil =>
        repeat refine LS.seq ?_
        refine LS.region rfl ?_
        refine OS.pure rfl (fun _ => rfl) rfl ?_
        refine OS.pure rfl (fun _ => rfl) rfl ?_
        refine OS.pure rfl (fun _ => rfl) rfl ?_
        refine OS.skip rfl rfl ?_
        refine OS.skip rfl rfl ?_
        refine OS.skip rfl rfl ?_
        refine OS.pure rfl (fun _ => rfl) rfl ?_
        refine OS.nil ?_
        repeat refine LS.seq ?_
        refine LS.cond rfl (fun hc2 => ?_) (fun hc2 => ?_)
        · cases hc2
        refine LS.skip ?_
        have hnb : ¬ ((c :: t).drop (wordK (c :: t)).2 ≠ [] ∧ ((c :: t).drop (wordK (c :: t)).2).dropWhile isBl = (c :: t).drop (wordK (c :: t)).2) := by rw [hbe]; simp
        have hmore := spl_more hc hnb
        rw [hbe] at hmore
        repeat refine LS.seq ?_
        refine LS.region rfl ?_
        refine OS.pure rfl (fun _ => rfl) rfl ?_
        refine OS.pure rfl (fun _ => rfl) rfl ?_
        refine OS.fresh rfl (e_new (fun _ => rfl) rfl) (fun _ => rfl) (fun r2 => ?_)
        refine OS.fresh rfl (e_appendGV [(r2, _)] (m := 1) (sz := 1) (bts := 16) hg (SV.row (sz := 1) (n := 1) (List.mem_cons_self ..) rfl) (by omega) rfl rfl rfl rfl (by simp at hw; omega) (by simp at hw; omega)) (fun _ => rfl) (fun r3 => ?_)
        refine OS.pure rfl (fun _ => rfl) rfl ?_
        refine OS.sub (Sub.drop 1 rfl) ?_
        refine OS.nil ?_
        refine ⟨0, by simp, ws ++ [(wordK (c :: t)).1], _, [], rfl, by simp, by simp at hw ⊢; omega, ?_, ?_, rfl⟩
        · rw [hsp, hmore]
          simp [Function.comp_def]
        · rw [strs_snoc, List.length_append]; exact GV.of (by simp [strs])
      | cons d be =>
        repeat refine LS.seq ?_
        refine LS.region rfl ?_
        refine OS.pure rfl (fun _ => rfl) rfl ?_
        refine OS.pure rfl (fun _ => rfl) rfl ?_
        refine OS.pure rfl (fun _ => rfl) rfl ?_
        refine OS.pure rfl (fun _ => rfl) rfl ?_
        refine OS.pure rfl (fun _ => rfl) rfl ?_
        refine OS.pure rfl (fun _ => rfl) rfl ?_
        refine OS.pure rfl (fun _ => rfl) rfl ?_
        refine OS.nil ?_
        repeat refine LS.seq ?_
        refine LS.cond rfl (fun hc2 => ?_) (fun hc2 => ?_)
        · have hc2 : bytesEq ((d :: be).dropWhile isBl) (d :: be) = true := hc2
          rw [bytesEq_eq] at hc2
          have hc2 : (d :: be).dropWhile isBl = d :: be := by simpa using hc2
          have hbad := spl_bad (c := c) (t := t) hc (by rw [hbe]; exact ⟨by simp, hc2⟩)
          repeat refine LS.seq ?_
          refine LS.region rfl ?_
          refine OS.pure rfl (fun _ => rfl) rfl ?_
          refine OS.pure rfl (fun _ => rfl) rfl ?_
          refine OS.nil ?_
          refine LS.ret ⟨_, fun _ _ => rfl, ?_⟩
          exact .inr (.inl ⟨by omega, by rw [hsp, hbad]; rfl, rfl, GV.less hg⟩)
        have hc2 : bytesEq ((d :: be).dropWhile isBl) (d :: be) = false := hc2
        rw [bytesEq_eq] at hc2
        have hc2 : (d :: be).dropWhile isBl ≠ d :: be := by simpa using hc2
        refine LS.skip ?_
        have hnb : ¬ ((c :: t).drop (wordK (c :: t)).2 ≠ [] ∧ ((c :: t).drop (wordK (c :: t)).2).dropWhile isBl = (c :: t).drop (wordK (c :: t)).2) := by rw [hbe]; exact fun h => hc2 h.2
        have hmore := spl_more hc hnb
        have hlt := next_lt hnb
        rw [hbe] at hmore hlt
        repeat refine LS.seq ?_
        refine LS.region rfl ?_
        refine OS.pure rfl (fun _ => rfl) rfl ?_
        refine OS.pure rfl (fun _ => rfl) rfl ?_
        refine OS.fresh rfl (e_new (fun _ => rfl) rfl) (fun _ => rfl) (fun r2 => ?_)
        refine OS.fresh rfl (e_appendGV [(r2, _)] (m := 1) (sz := 1) (bts := 16) hg (SV.row (sz := 1) (n := 1) (List.mem_cons_self ..) rfl) (by omega) rfl rfl rfl rfl (by simp at hw; omega) (by simp at hw; omega)) (fun _ => rfl) (fun r3 => ?_)
        refine OS.pure rfl (fun _ => rfl) rfl ?_
        refine OS.sub (Sub.drop 1 rfl) ?_
        refine OS.nil ?_
        generalize hre : (d :: be).dropWhile isBl = re at hmore hlt ⊢
        refine ⟨re.length, hlt, ws ++ [(wordK (c :: t)).1], _, re, rfl, by omega, by simp at hw hlt ⊢; omega, ?_, ?_, rfl⟩
        · rw [hsp, hmore]
          simp [Function.comp_def]
        · rw [strs_snoc, List.length_append]; exact GV.of (by simp [strs])
    · have hc : c = 35 := is_u8 35 (by simpa using hc) rfl
      subst hc
      refine LS.exit ?_
      repeat refine LS.seq ?_
      refine LS.region rfl ?_
      refine OS.pure rfl (fun _ => rfl) rfl ?_
      refine OS.call noGo rfl (fun _ => rfl) ((ContainsN_ct (35 :: t)).mono ?_)
      rintro v L₁ ⟨rfl, rfl⟩
      refine ⟨_, rfl, ?_⟩
      refine OS.nil ?_
      repeat refine LS.seq ?_
      refine LS.cond rfl (fun hc => ?_) (fun hc => ?_)
      · repeat refine LS.seq ?_
        refine LS.region rfl ?_
        refine OS.pure rfl (fun _ => rfl) rfl ?_
        refine OS.pure rfl (fun _ => rfl) rfl ?_
        refine OS.nil ?_
        refine LS.ret ⟨_, fun _ _ => rfl, ?_⟩
        exact .inr (.inl ⟨by omega, by rw [hsp, spl_hash, hc]; rfl, rfl, GV.less hg⟩)
      · refine LS.skip ?_
        repeat refine LS.seq ?_
        refine LS.region rfl ?_
        refine OS.pure rfl (fun _ => rfl) rfl ?_
        refine OS.pure rfl (fun _ => rfl) rfl ?_
        refine OS.pure rfl (fun _ => rfl) rfl ?_
        refine OS.nil ?_
        refine LS.ret ⟨_, fun _ _ => rfl, ?_⟩
        exact .inr (.inr ⟨by omega, ws, u, by rw [hsp, spl_hash, hc]; simp, rfl, hg⟩)
theorem blank_not {c : UInt8} (h : isBl c = true) : isP c = false := by
  simp only [isBl, Bool.or_eq_true, beq_iff_eq] at h
  rcases h with rfl | rfl <;> decide
theorem dw_not {c : UInt8} {u : List UInt8} (h : isBl c = false) : (c :: u).dropWhile isBl = c :: u := by simp [h]
theorem ref_more {c : UInt8} {u : List UInt8} {w : List UInt8} {n : Nat} (hc : c ≠ 35) (hw : wordK (c :: u) = (w, n)) (hd : (c :: u).drop n = [] ∨ ∃ e v, (c :: u).drop n = e :: v ∧ isBl e = true) : spl (c :: u) = (splitW ((c :: u).drop n)).map (w :: ·) := by
  have h := spl_more (c := c) (t := u) hc (by
    rw [hw]; simp only []
    rcases hd with hd | ⟨e, v, hd, he⟩
    · rw [hd]; simp
    · rw [hd]
      rintro ⟨_, h⟩
      have := dw_le v
      simp only [List.dropWhile_cons, he, if_true] at h
      rw [h] at this
      simp at this; omega)
  rw [h, hw]; rfl
end Go.Proofs.YtmdcfnnoeimakaaGreatDoor
