/- Layer 2: the document's Split. -/
import Derived.Test.YtfmgoagkjjmefaaGreatDoorWh
namespace Go.Proofs.YtfmgoagkjjmefaaGreatDoor
open Go.Am
set_option linter.unusedVariables false
set_option maxRecDepth 20000

def PR (t : List UInt8) (off : Nat) : Prop := off ≤ t.length ∧ tk plainK t = (t.take off ++ (tk plainK (t.drop off)).1, off + (tk plainK (t.drop off)).2)
theorem PR.more {t u : List UInt8} {off : Nat} {c : UInt8} (h : PR t off) (hd : t.drop off = c :: u) (hp : isP c = true) : PR t (off + 1) := by
  obtain ⟨h0, h⟩ := h
  have hlt : off < t.length := by
    rcases Nat.lt_or_ge off t.length with h' | h'
    · exact h'
    · rw [List.drop_eq_nil_of_le h'] at hd; cases hd
  have hk : plainK (t.drop off) = (c, 1) := by rw [hd]; simp [plainK, hp]
  refine ⟨by omega, ?_⟩
  rw [h, tk_more plain_sane (s := t.drop off) (by rw [hk]; simp), hk, List.drop_drop, List.take_add_one]
  have : t[off]? = some c := by
    have h1 : (t.drop off)[0]? = some c := by rw [hd]; rfl
    rwa [List.getElem?_drop, Nat.add_zero] at h1
  rw [this]
  simp [Nat.add_assoc]
theorem PR.stop {t : List UInt8} {off : Nat} (h : PR t off) (hz : (plainK (t.drop off)).2 = 0) : tk plainK t = (t.take off, off) := by
  rw [h.2, tk_stop hz]; simp
theorem blank_not {c : UInt8} (h : isBl c = true) : isP c = false := by
  simp only [isBl, Bool.or_eq_true, beq_iff_eq] at h
  rcases h with rfl | rfl <;> decide
theorem dw_not {c : UInt8} {u : List UInt8} (h : isBl c = false) : (c :: u).dropWhile isBl = c :: u := by simp [h]
theorem ref_bad {c e : UInt8} {u v : List UInt8} {w : List UInt8} {n : Nat} (hc : c ≠ 35) (hw : wordK (c :: u) = (w, n)) (hd : (c :: u).drop n = e :: v) (he : isBl e = false) : spl (c :: u) = none :=
  spl_bad hc (by rw [hw]; simp only []; rw [hd]; exact ⟨by simp, dw_not he⟩)
theorem ref_more {c : UInt8} {u : List UInt8} {w : List UInt8} {n : Nat} (hc : c ≠ 35) (hw : wordK (c :: u) = (w, n)) (hd : (c :: u).drop n = [] ∨ ∃ e v, (c :: u).drop n = e :: v ∧ isBl e = true) : spl (c :: u) = (splitW ((c :: u).drop n)).map (w :: ·) := by
  have h := spl_more (c := c) (t := u) hc (by
    rw [hw]; simp only []
    rcases hd with hd | ⟨e, v, hd, he⟩
    · rw [hd]; simp
    · rw [hd]
      rintro ⟨_, h⟩
      have := dw_le v
      simp only [List.dropWhile_cons, he, if_true] at h
      rw [h] at this
      simp at this; omega)
  rw [h, hw]; rfl
theorem refSplit_ct {L : RL} (s : List UInt8) (hs : s.length ≤ 9000000000000000) : CS Tryz.prog 26 [str s] L fun v L' => SP s L v L' := by
  suffices h : CS Tryz.prog 26 [str s] L fun v L' => (s.length > 400 ∧ v = .tuple #[.slice none 0 0, .int .i64 40] ∧ L' = L) ∨
      (s.length ≤ 400 ∧ splitW s = none ∧ v = .tuple #[.slice none 0 0, .int .i64 4] ∧ Sub L L') ∨
      (s.length ≤ 400 ∧ ∃ ws u, splitW s = some ws ∧ v = .tuple #[u, .int .i64 0] ∧ GV 9 1 L u ws.length (strs ws) L') by
    refine h.less fun v L' h => ?_
    rcases h with ⟨h1, h2, rfl⟩ | ⟨h1, h2, h3, h4⟩ | h
    · exact ⟨_, ⟨[], by simp⟩, .inl ⟨h1, h2, rfl⟩⟩
    · exact ⟨L, h4, .inr (.inl ⟨h1, h2, h3, rfl⟩)⟩
    · exact ⟨L', ⟨[], by simp⟩, .inr (.inr h)⟩
  by_cases hl : s.length > 400
  · have b1 : (!ileB (s.length : Int) 400) = true := by rw [ileB_eq]; simp; omega
    refine CS.mk (fn := Tryz.f26) rfl rfl rfl rfl ?_
    repeat refine LS.seq ?_
    refine LS.region rfl ?_
    refine OS.pure rfl (fun _ => rfl) rfl ?_
    refine OS.pure rfl (fun _ => rfl) rfl ?_
    refine OS.nil ?_
    repeat refine LS.seq ?_
    refine LS.region rfl ?_
    refine OS.pure rfl (fun _ => rfl) rfl ?_
    refine OS.pure rfl (fun _ => rfl) rfl ?_
    refine OS.pure rfl (e_is (fun _ => rfl) (congrArg Value.bool b1)) rfl ?_
    refine OS.nil ?_
    repeat refine LS.seq ?_
    refine LS.cond rfl (fun hc => ?_) (fun hc => ?_)
    · repeat refine LS.seq ?_
      refine LS.region rfl ?_
      refine OS.pure rfl (fun _ => rfl) rfl ?_
      refine OS.pure rfl (fun _ => rfl) rfl ?_
      refine OS.nil ?_
      refine LS.ret ⟨_, fun _ _ => rfl, ?_⟩
      exact .inl ⟨hl, rfl, rfl⟩
    · cases hc
  have hl4 : s.length ≤ 400 := by omega
  have b1 : (!ileB (s.length : Int) 400) = false := by rw [ileB_eq]; simp; omega
  refine CS.mk (fn := Tryz.f26) rfl rfl rfl rfl ?_
  repeat refine LS.seq ?_
  refine LS.region rfl ?_
  refine OS.pure rfl (fun _ => rfl) rfl ?_
  refine OS.pure rfl (fun _ => rfl) rfl ?_
  refine OS.nil ?_
  repeat refine LS.seq ?_
  refine LS.region rfl ?_
  refine OS.pure rfl (fun _ => rfl) rfl ?_
  refine OS.pure rfl (fun _ => rfl) rfl ?_
  refine OS.pure rfl (e_is (fun _ => rfl) (congrArg Value.bool b1)) rfl ?_
  refine OS.nil ?_
  repeat refine LS.seq ?_
  refine LS.cond rfl (fun hc => ?_) (fun hc => ?_)
  · cases hc
  refine LS.skip ?_
  repeat refine LS.seq ?_
  refine LS.region rfl ?_
  refine OS.pure rfl (fun _ => rfl) rfl ?_
  refine OS.nil ?_
  repeat refine LS.seq ?_
  refine LS.region rfl ?_
  refine OS.pure rfl (fun _ => rfl) rfl ?_
  refine OS.nil ?_
  repeat refine LS.seq ?_
  refine LS.block ?_
  refine LS.loopJ [0, 4, 5] (fun q a L' => ∃ (ws : List (List UInt8)) (out : Value) (i : Nat), q = s.length - i ∧ i ≤ s.length ∧ ws.length ≤ i ∧ splitW s = (splitW (s.drop i)).map (ws ++ ·) ∧ GV 9 1 L out ws.length (strs ws) L' ∧ a = [str s, .chan none, .chan none, .chan none, out, .int .i64 (i : Nat), .chan none, .chan none, .chan none, .chan none, .chan none, .chan none, .chan none, .chan none, .chan none, .chan none, .chan none, .chan none, .chan none, .chan none, .chan none, .chan none, .chan none, .chan none, .chan none, .chan none, .chan none, .chan none, .chan none, .chan none, .chan none, .chan none, .chan none, .chan none, .chan none, .chan none, .chan none, .chan none, .chan none, .chan none, .chan none, .chan none, .chan none, .chan none, .chan none, .chan none, .chan none, .chan none, .chan none, .chan none, .chan none, .chan none, .chan none, .chan none, .chan none, .chan none, .chan none, .chan none, .chan none, .chan none, .chan none, .chan none, .chan none, .chan none, .chan none, .chan none, .chan none, .chan none, .chan none, .chan none, .chan none, .chan none, .chan none, .chan none, .chan none, .chan none, .chan none, .chan none, .chan none, .chan none, .chan none, .chan none, .chan none, .chan none, .chan none, .chan none, .chan none, .chan none, .chan none, .chan none, .chan none, .chan none, .chan none, .chan none, .chan none, .chan none, .chan none, .chan none, .chan none, .chan none, .chan none, .chan none, .chan none, .chan none, .chan none, .chan none, .chan none, .chan none, .chan none, .chan none, .chan none, .chan none, .chan none]) (n := s.length) rfl ⟨[], _, 0, rfl, by omega, by simp, by simp, GV.nil, rfl⟩ ?_
  rintro q a L' ⟨ws, out, i₀, rfl, hi₀, hw, hsp, hg, rfl⟩
  repeat refine LS.seq ?_
  refine LS.block ?_
  repeat refine LS.seq ?_
  refine LS.block ?_
  refine LS.loopJ [0, 4, 5] (fun q a L2 => ∃ (i : Nat), q = s.length - i ∧ i₀ ≤ i ∧ i ≤ s.length ∧ (s.drop i₀).dropWhile isBl = (s.drop i).dropWhile isBl ∧ L2 = L' ∧ a = [str s, .chan none, .chan none, .chan none, out, .int .i64 (i : Nat), .chan none, .chan none, .chan none, .chan none, .chan none, .chan none, .chan none, .chan none, .chan none, .chan none, .chan none, .chan none, .chan none, .chan none, .chan none, .chan none, .chan none, .chan none, .chan none, .chan none, .chan none, .chan none, .chan none, .chan none, .chan none, .chan none, .chan none, .chan none, .chan none, .chan none, .chan none, .chan none, .chan none, .chan none, .chan none, .chan none, .chan none, .chan none, .chan none, .chan none, .chan none, .chan none, .chan none, .chan none, .chan none, .chan none, .chan none, .chan none, .chan none, .chan none, .chan none, .chan none, .chan none, .chan none, .chan none, .chan none, .chan none, .chan none, .chan none, .chan none, .chan none, .chan none, .chan none, .chan none, .chan none, .chan none, .chan none, .chan none, .chan none, .chan none, .chan none, .chan none, .chan none, .chan none, .chan none, .chan none, .chan none, .chan none, .chan none, .chan none, .chan none, .chan none, .chan none, .chan none, .chan none, .chan none, .chan none, .chan none, .chan none, .chan none, .chan none, .chan none, .chan none, .chan none, .chan none, .chan none, .chan none, .chan none, .chan none, .chan none, .chan none, .chan none, .chan none, .chan none, .chan none, .chan none, .chan none]) (n := s.length - i₀) rfl ⟨i₀, rfl, by omega, by omega, rfl, rfl, rfl⟩ ?_
  rintro q a L2 ⟨i, rfl, h0i, hi, hdw, rfl, rfl⟩
  by_cases hlt : i < s.length
  · have hcons : s.drop i = s[i] :: s.drop (i + 1) := List.drop_eq_getElem_cons hlt
    have hget : s[i]? = some (s[i]'hlt) := List.getElem?_eq_getElem hlt
    generalize s[i] = c at hcons hget
    have bl : (!ileB (s.length : Int) (i : Nat)) = true := by rw [ileB_eq]; simp; omega
    repeat refine LS.seq ?_
    refine LS.region rfl ?_
    refine OS.pure rfl (fun _ => rfl) rfl ?_
    refine OS.pure rfl (fun _ => rfl) rfl ?_
    refine OS.pure rfl (fun _ => rfl) rfl ?_
    refine OS.pure rfl (e_is (fun _ => rfl) (congrArg Value.bool bl)) rfl ?_
    refine OS.pure rfl (fun _ => rfl) rfl ?_
    refine OS.pure rfl (fun _ => rfl) rfl ?_
    refine OS.pure rfl (fun _ => rfl) rfl ?_
    refine OS.pure rfl (e_byte (s := s) (j := i) rfl rfl rfl rfl hget) rfl ?_
    refine OS.call noGo rfl (fun _ => rfl) ((blank_ct c).mono ?_)
    rintro v L3 ⟨rfl, rfl⟩
    refine ⟨_, rfl, ?_⟩
    refine OS.pure rfl (fun _ => rfl) rfl ?_
    refine OS.nil ?_
    repeat refine LS.seq ?_
    refine LS.cond rfl (fun hb => ?_) (fun hb => ?_)
    · have hb : isBl c = true := hb
      refine LS.skip ?_
      repeat refine LS.seq ?_
      refine LS.block ?_
      repeat refine LS.seq ?_
      refine LS.region rfl ?_
      refine OS.pure rfl (fun _ => rfl) rfl ?_
      refine OS.pure rfl (e_add (m := (i : Int)) (n := 1) rfl rfl rfl (in_i64 (by omega) (by omega))) rfl ?_
      rw [show ((i : Nat) : Int) + 1 = ((i + 1 : Nat) : Int) by omega]
      refine OS.pure rfl (fun _ => rfl) rfl ?_
      refine OS.nil ?_
      exact ⟨s.length - (i + 1), by omega, i + 1, rfl, by omega, by omega, by rw [hdw, hcons]; simp [hb], rfl, rfl⟩
    have hb : isBl c = false := hb
    have hcur : splitW s = (spl (c :: s.drop (i + 1))).map (ws ++ ·) := by rw [hsp]; unfold splitW; rw [hdw, hcons, dw_not hb]
    have be : ieqB ((i : Nat) : Int) (s.length : Nat) = false := by rw [ieqB_eq]; simp; omega
    refine LS.exit ?_
    repeat refine LS.seq ?_
    refine LS.region rfl ?_
    refine OS.pure rfl (fun _ => rfl) rfl ?_
    refine OS.pure rfl (fun _ => rfl) rfl ?_
    refine OS.pure rfl (fun _ => rfl) rfl ?_
    refine OS.pure rfl (e_is (fun _ => rfl) (congrArg Value.bool be)) rfl ?_
    refine OS.nil ?_
    repeat refine LS.seq ?_
    refine LS.cond rfl (fun h => ?_) (fun h => ?_)
    · cases h
    refine LS.skip ?_
    repeat refine LS.seq ?_
    refine LS.region rfl ?_
    refine OS.pure rfl (fun _ => rfl) rfl ?_
    refine OS.pure rfl (fun _ => rfl) rfl ?_
    refine OS.pure rfl (e_byte (s := s) (j := i) rfl rfl rfl rfl hget) rfl ?_
    refine OS.pure rfl (fun _ => rfl) rfl ?_
    refine OS.nil ?_
    repeat refine LS.seq ?_
    refine LS.cond rfl (fun h35 => ?_) (fun h35 => ?_)
    · have h35 := is_u8 35 h35 rfl
      subst h35
      repeat refine LS.seq ?_
      refine LS.block ?_
      refine LS.loopJ [0, 4, 5] (fun q a L2 => ∃ (j : Nat), q = s.length - j ∧ j ≤ s.length ∧ (35 :: s.drop (i + 1)).contains 10 = (s.drop j).contains 10 ∧ L2 = L3 ∧ a = [str s, .chan none, .chan none, .chan none, out, .int .i64 (j : Nat), .chan none, .chan none, .chan none, .chan none, .chan none, .chan none, .chan none, .chan none, .chan none, .chan none, .chan none, .chan none, .chan none, .chan none, .chan none, .chan none, .chan none, .chan none, .chan none, .chan none, .chan none, .chan none, .chan none, .chan none, .chan none, .chan none, .chan none, .chan none, .chan none, .chan none, .chan none, .chan none, .chan none, .chan none, .chan none, .chan none, .chan none, .chan none, .chan none, .chan none, .chan none, .chan none, .chan none, .chan none, .chan none, .chan none, .chan none, .chan none, .chan none, .chan none, .chan none, .chan none, .chan none, .chan none, .chan none, .chan none, .chan none, .chan none, .chan none, .chan none, .chan none, .chan none, .chan none, .chan none, .chan none, .chan none, .chan none, .chan none, .chan none, .chan none, .chan none, .chan none, .chan none, .chan none, .chan none, .chan none, .chan none, .chan none, .chan none, .chan none, .chan none, .chan none, .chan none, .chan none, .chan none, .chan none, .chan none, .chan none, .chan none, .chan none, .chan none, .chan none, .chan none, .chan none, .chan none, .chan none, .chan none, .chan none, .chan none, .chan none, .chan none, .chan none, .chan none, .chan none, .chan none, .chan none, .chan none]) (n := s.length - i) rfl ⟨i, rfl, by omega, by rw [hcons], rfl, rfl⟩ ?_
      rintro q a L4 ⟨j, rfl, hj, hct, rfl, rfl⟩
      repeat refine LS.seq ?_
      refine LS.region rfl ?_
      refine OS.pure rfl (fun _ => rfl) rfl ?_
      refine OS.pure rfl (fun _ => rfl) rfl ?_
      refine OS.pure rfl (fun _ => rfl) rfl ?_
      refine OS.pure rfl (fun _ => rfl) rfl ?_
      refine OS.nil ?_
      repeat refine LS.seq ?_
      refine LS.cond rfl (fun h => ?_) (fun h => ?_)
      · have h : ((j : Nat) : Int) < s.length := lt_of h
        have hjl : j < s.length := by omega
        have hc2 : s.drop j = s[j] :: s.drop (j + 1) := List.drop_eq_getElem_cons hjl
        have hg2 : s[j]? = some (s[j]'hjl) := List.getElem?_eq_getElem hjl
        generalize s[j] = e at hc2 hg2
        refine LS.skip ?_
        repeat refine LS.seq ?_
        refine LS.block ?_
        repeat refine LS.seq ?_
        refine LS.region rfl ?_
        refine OS.pure rfl (fun _ => rfl) rfl ?_
        refine OS.pure rfl (fun _ => rfl) rfl ?_
        refine OS.pure rfl (e_byte (s := s) (j := j) rfl rfl rfl rfl hg2) rfl ?_
        refine OS.pure rfl (fun _ => rfl) rfl ?_
        refine OS.nil ?_
        repeat refine LS.seq ?_
        refine LS.cond rfl (fun h10 => ?_) (fun h10 => ?_)
        · have h10 := is_u8 10 h10 rfl
          subst h10
          repeat refine LS.seq ?_
          refine LS.region rfl ?_
          refine OS.pure rfl (fun _ => rfl) rfl ?_
          refine OS.pure rfl (fun _ => rfl) rfl ?_
          refine OS.nil ?_
          refine LS.ret ⟨_, fun _ _ => rfl, ?_⟩
          exact .inr (.inl ⟨hl4, by rw [hcur, spl_hash, hct, hc2]; simp, rfl, GV.less hg⟩)
        have h10 := not_u8 10 h10 rfl
        have h10' : ((10 : UInt8) == e) = false := by simpa using fun h => h10 h.symm
        refine LS.skip ?_
        repeat refine LS.seq ?_
        refine LS.region rfl ?_
        refine OS.pure rfl (fun _ => rfl) rfl ?_
        refine OS.pure rfl (e_add (m := (j : Int)) (n := 1) rfl rfl rfl (in_i64 (by omega) (by omega))) rfl ?_
        rw [show ((j : Nat) : Int) + 1 = ((j + 1 : Nat) : Int) by omega]
        refine OS.pure rfl (fun _ => rfl) rfl ?_
        refine OS.nil ?_
        exact ⟨s.length - (j + 1), by omega, j + 1, rfl, by omega, by rw [hct, hc2, List.contains_cons, h10', Bool.false_or], rfl, rfl⟩
      · have h : (s.length : Int) ≤ ((j : Nat) : Int) := nlt_of h
        have hjl : j = s.length := by omega
        subst hjl
        refine LS.exit ?_
        repeat refine LS.seq ?_
        refine LS.region rfl ?_
        refine OS.pure rfl (fun _ => rfl) rfl ?_
        refine OS.pure rfl (fun _ => rfl) rfl ?_
        refine OS.pure rfl (fun _ => rfl) rfl ?_
        refine OS.nil ?_
        refine LS.ret ⟨_, fun _ _ => rfl, ?_⟩
        exact .inr (.inr ⟨hl4, ws, out, by rw [hcur, spl_hash, hct, List.drop_length]; simp, rfl, hg⟩)
    have h35 := not_u8 35 h35 rfl
    refine LS.skip ?_
    repeat refine LS.seq ?_
    refine LS.region rfl ?_
    refine OS.pure rfl (fun _ => rfl) rfl ?_
    refine OS.pure rfl (fun _ => rfl) rfl ?_
    refine OS.pure rfl (e_byte (s := s) (j := i) rfl rfl rfl rfl hget) rfl ?_
    refine OS.pure rfl (fun _ => rfl) rfl ?_
    refine OS.nil ?_
    repeat refine LS.seq ?_
    refine LS.cond rfl (fun h34 => ?_) (fun h34 => ?_)
    · have h34 := is_u8 34 h34 rfl
      subst h34
      repeat refine LS.seq ?_
      refine LS.region rfl ?_
      refine OS.pure rfl (fun _ => rfl) rfl ?_
      refine OS.pure rfl (fun _ => rfl) rfl ?_
      refine OS.call noGo rfl (fun _ => rfl) ((quoted_ct s i hl4 hlt).mono ?_)
      rintro v L5 ⟨rfl, rfl⟩
      by_cases hq : ((s.drop (i + 1)).drop (tk markK (s.drop (i + 1))).2).head? = some 34
      · have hv : quotV s i = .tuple #[str (tk markK (s.drop (i + 1))).1, .int .i64 ((i + 2 + (tk markK (s.drop (i + 1))).2 : Nat) : Int), .bool true] := if_pos hq
        have hw : wordK (34 :: s.drop (i + 1)) = ((tk markK (s.drop (i + 1))).1, (tk markK (s.drop (i + 1))).2 + 2) := by simp only [wordK, if_true, if_pos hq]
        have hlt2 : (tk markK (s.drop (i + 1))).2 < (s.drop (i + 1)).length := by
          rcases Nat.lt_or_ge (tk markK (s.drop (i + 1))).2 (s.drop (i + 1)).length with h' | h'
          · exact h'
          · rw [List.drop_eq_nil_of_le h'] at hq; cases hq
        rw [List.length_drop] at hlt2
        have hdto : (34 :: s.drop (i + 1)).drop ((tk markK (s.drop (i + 1))).2 + 2) = s.drop (i + 2 + (tk markK (s.drop (i + 1))).2) := by
          rw [show (tk markK (s.drop (i + 1))).2 + 2 = ((tk markK (s.drop (i + 1))).2 + 1) + 1 by omega, List.drop_succ_cons, List.drop_drop]
          congr 1; omega
        rw [hv]
        refine ⟨_, rfl, ?_⟩
        refine OS.pure rfl (fun _ => rfl) rfl ?_
        refine OS.pure rfl (fun _ => rfl) rfl ?_
        refine OS.pure rfl (fun _ => rfl) rfl ?_
        refine OS.pure rfl (fun _ => rfl) rfl ?_
        refine OS.pure rfl (fun _ => rfl) rfl ?_
        refine OS.pure rfl (fun _ => rfl) rfl ?_
        refine OS.pure rfl (fun _ => rfl) rfl ?_
        refine OS.nil ?_
        by_cases h2 : i + 2 + (tk markK (s.drop (i + 1))).2 < s.length
        · have hc3 : s.drop (i + 2 + (tk markK (s.drop (i + 1))).2) = s[i + 2 + (tk markK (s.drop (i + 1))).2] :: s.drop (i + 2 + (tk markK (s.drop (i + 1))).2 + 1) := List.drop_eq_getElem_cons h2
          have hg3 : s[i + 2 + (tk markK (s.drop (i + 1))).2]? = some (s[i + 2 + (tk markK (s.drop (i + 1))).2]'h2) := List.getElem?_eq_getElem h2
          generalize s[i + 2 + (tk markK (s.drop (i + 1))).2] = e at hc3 hg3
          have bt : (!ileB (s.length : Int) ((i + 2 + (tk markK (s.drop (i + 1))).2 : Nat) : Int)) = true := by rw [ileB_eq]; simp; omega
          repeat refine LS.seq ?_
          refine LS.region rfl ?_
          refine OS.pure rfl (fun _ => rfl) rfl ?_
          refine OS.pure rfl (fun _ => rfl) rfl ?_
          refine OS.pure rfl (fun _ => rfl) rfl ?_
          refine OS.pure rfl (fun _ => rfl) rfl ?_
          refine OS.pure rfl (fun _ => rfl) rfl ?_
          refine OS.pure rfl (fun _ => rfl) rfl ?_
          refine OS.pure rfl (e_is (fun _ => rfl) (congrArg Value.bool bt)) rfl ?_
          refine OS.pure rfl (fun _ => rfl) rfl ?_
          refine OS.pure rfl (fun _ => rfl) rfl ?_
          refine OS.pure rfl (fun _ => rfl) rfl ?_
          refine OS.pure rfl (e_byte (s := s) (j := i + 2 + (tk markK (s.drop (i + 1))).2) rfl rfl rfl rfl hg3) rfl ?_
          refine OS.call noGo rfl (fun _ => rfl) ((blank_ct e).mono ?_)
          rintro v L6 ⟨rfl, rfl⟩
          refine ⟨_, rfl, ?_⟩
          refine OS.pure rfl (fun _ => rfl) rfl ?_
          refine OS.pure rfl (fun _ => rfl) rfl ?_
          refine OS.pure rfl (fun _ => rfl) rfl ?_
          refine OS.nil ?_
          repeat refine LS.seq ?_
          refine LS.cond rfl (fun hbe => ?_) (fun hbe => ?_)
          · have hbe : isBl e = false := by simpa using hbe
            repeat refine LS.seq ?_
            refine LS.region rfl ?_
            refine OS.pure rfl (fun _ => rfl) rfl ?_
            refine OS.pure rfl (fun _ => rfl) rfl ?_
            refine OS.nil ?_
            refine LS.ret ⟨_, fun _ _ => rfl, ?_⟩
            exact .inr (.inl ⟨hl4, by rw [hcur, ref_bad h35 hw (by rw [hdto]; exact hc3) hbe]; rfl, rfl, GV.less hg⟩)
          have hbe : isBl e = true := by simpa using hbe
          refine LS.skip ?_
          repeat refine LS.seq ?_
          refine LS.region rfl ?_
          refine OS.pure rfl (fun _ => rfl) rfl ?_
          refine OS.pure rfl (fun _ => rfl) rfl ?_
          refine OS.fresh rfl (e_new (fun _ => rfl) rfl) (fun _ => rfl) (fun r2 => ?_)
          refine OS.fresh rfl (e_appendGV [(r2, _)] (m := 1) (sz := 1) (bts := 16) hg (SV.row (sz := 1) (n := 1) (List.mem_cons_self ..) rfl) (by omega) rfl rfl rfl rfl (by omega) (by omega)) (fun _ => rfl) (fun r3 => ?_)
          refine OS.pure rfl (fun _ => rfl) rfl ?_
          refine OS.sub (Sub.drop 1 rfl) ?_
          refine OS.nil ?_
          repeat refine LS.seq ?_
          refine LS.region rfl ?_
          refine OS.pure rfl (fun _ => rfl) rfl ?_
          refine OS.pure rfl (fun _ => rfl) rfl ?_
          refine OS.nil ?_
          refine LS.exit ?_
          refine ⟨s.length - (i + 2 + (tk markK (s.drop (i + 1))).2), by omega, ws ++ [(tk markK (s.drop (i + 1))).1], _, i + 2 + (tk markK (s.drop (i + 1))).2, rfl, by omega, by simp; omega, ?_, ?_, rfl⟩
          · rw [hcur, ref_more h35 hw (by rw [hdto]; exact .inr ⟨e, _, hc3, hbe⟩), hdto]
            simp [Function.comp_def]
          · rw [strs_snoc, List.length_append]; exact GV.of (by simp [strs])
        · have bt : (!ileB (s.length : Int) ((i + 2 + (tk markK (s.drop (i + 1))).2 : Nat) : Int)) = false := by rw [ileB_eq]; simp; omega
          repeat refine LS.seq ?_
          refine LS.region rfl ?_
          refine OS.pure rfl (fun _ => rfl) rfl ?_
          refine OS.pure rfl (fun _ => rfl) rfl ?_
          refine OS.pure rfl (fun _ => rfl) rfl ?_
          refine OS.pure rfl (fun _ => rfl) rfl ?_
          refine OS.pure rfl (fun _ => rfl) rfl ?_
          refine OS.pure rfl (fun _ => rfl) rfl ?_
          refine OS.pure rfl (e_is (fun _ => rfl) (congrArg Value.bool bt)) rfl ?_
          refine OS.pure rfl (fun _ => rfl) rfl ?_
          refine OS.skip rfl rfl ?_
          refine OS.skip rfl rfl ?_
          refine OS.skip rfl rfl ?_
          refine OS.skip rfl rfl ?_
          refine OS.skip rfl rfl ?_
          refine OS.pure rfl (fun _ => rfl) rfl ?_
          refine OS.pure rfl (fun _ => rfl) rfl ?_
          refine OS.nil ?_
          repeat refine LS.seq ?_
          refine LS.cond rfl (fun hbe => ?_) (fun hbe => ?_)
          · cases hbe
          refine LS.skip ?_
          repeat refine LS.seq ?_
          refine LS.region rfl ?_
          refine OS.pure rfl (fun _ => rfl) rfl ?_
          refine OS.pure rfl (fun _ => rfl) rfl ?_
          refine OS.fresh rfl (e_new (fun _ => rfl) rfl) (fun _ => rfl) (fun r2 => ?_)
          refine OS.fresh rfl (e_appendGV [(r2, _)] (m := 1) (sz := 1) (bts := 16) hg (SV.row (sz := 1) (n := 1) (List.mem_cons_self ..) rfl) (by omega) rfl rfl rfl rfl (by omega) (by omega)) (fun _ => rfl) (fun r3 => ?_)
          refine OS.pure rfl (fun _ => rfl) rfl ?_
          refine OS.sub (Sub.drop 1 rfl) ?_
          refine OS.nil ?_
          repeat refine LS.seq ?_
          refine LS.region rfl ?_
          refine OS.pure rfl (fun _ => rfl) rfl ?_
          refine OS.pure rfl (fun _ => rfl) rfl ?_
          refine OS.nil ?_
          refine LS.exit ?_
          refine ⟨s.length - (i + 2 + (tk markK (s.drop (i + 1))).2), by omega, ws ++ [(tk markK (s.drop (i + 1))).1], _, i + 2 + (tk markK (s.drop (i + 1))).2, rfl, by omega, by simp; omega, ?_, ?_, rfl⟩
          · rw [hcur, ref_more h35 hw (by rw [hdto]; exact .inl (List.drop_eq_nil_of_le (by omega))), hdto]
            simp [Function.comp_def]
          · rw [strs_snoc, List.length_append]; exact GV.of (by simp [strs])
      · have hv : quotV s i = .tuple #[str [], .int .i64 0, .bool false] := if_neg hq
        have hw : wordK (34 :: s.drop (i + 1)) = ([], 0) := by simp only [wordK, if_true, if_neg hq]
        rw [hv]
        refine ⟨_, rfl, ?_⟩
        refine OS.pure rfl (fun _ => rfl) rfl ?_
        refine OS.pure rfl (fun _ => rfl) rfl ?_
        refine OS.pure rfl (fun _ => rfl) rfl ?_
        refine OS.pure rfl (fun _ => rfl) rfl ?_
        refine OS.pure rfl (fun _ => rfl) rfl ?_
        refine OS.pure rfl (fun _ => rfl) rfl ?_
        refine OS.pure rfl (fun _ => rfl) rfl ?_
        refine OS.nil ?_
        repeat refine LS.seq ?_
        refine LS.region rfl ?_
        refine OS.pure rfl (fun _ => rfl) rfl ?_
        refine OS.pure rfl (fun _ => rfl) rfl ?_
        refine OS.pure rfl (fun _ => rfl) rfl ?_
        refine OS.skip rfl rfl ?_
        refine OS.skip rfl rfl ?_
        refine OS.skip rfl rfl ?_
        refine OS.skip rfl rfl ?_
        refine OS.skip rfl rfl ?_
        refine OS.skip rfl rfl ?_
        refine OS.skip rfl rfl ?_
        refine OS.skip rfl rfl ?_
        refine OS.skip rfl rfl ?_
        refine OS.skip rfl rfl ?_
        refine OS.skip rfl rfl ?_
        refine OS.pure rfl (fun _ => rfl) rfl ?_
        refine OS.nil ?_
        repeat refine LS.seq ?_
        refine LS.cond rfl (fun hbe => ?_) (fun hbe => ?_)
        · repeat refine LS.seq ?_
          refine LS.region rfl ?_
          refine OS.pure rfl (fun _ => rfl) rfl ?_
          refine OS.pure rfl (fun _ => rfl) rfl ?_
          refine OS.nil ?_
          refine LS.ret ⟨_, fun _ _ => rfl, ?_⟩
          exact .inr (.inl ⟨hl4, by rw [hcur, ref_bad h35 hw rfl (by decide)]; rfl, rfl, GV.less hg⟩)
        · cases hbe
    have h34 := not_u8 34 h34 rfl
    refine LS.skip ?_
    repeat refine LS.seq ?_
    refine LS.region rfl ?_
    refine OS.pure rfl (fun _ => rfl) rfl ?_
    refine OS.pure rfl (fun _ => rfl) rfl ?_
    refine OS.nil ?_
    repeat refine LS.seq ?_
    refine LS.block ?_
    refine LS.loopJ [0, 4, 5, 9] (fun q a L2 => ∃ (off : Nat), q = s.length - (i + off) ∧ i + off ≤ s.length ∧ PR (s.drop i) off ∧ L2 = L3 ∧ a = [str s, .chan none, .chan none, .chan none, out, .int .i64 ((i + off : Nat) : Int), .chan none, .chan none, .chan none, .int .i64 (i : Nat), .chan none, .chan none, .chan none, .chan none, .chan none, .chan none, .chan none, .chan none, .chan none, .chan none, .chan none, .chan none, .chan none, .chan none, .chan none, .chan none, .chan none, .chan none, .chan none, .chan none, .chan none, .chan none, .chan none, .chan none, .chan none, .chan none, .chan none, .chan none, .chan none, .chan none, .chan none, .chan none, .chan none, .chan none, .chan none, .chan none, .chan none, .chan none, .chan none, .chan none, .chan none, .chan none, .chan none, .chan none, .chan none, .chan none, .chan none, .chan none, .chan none, .chan none, .chan none, .chan none, .chan none, .chan none, .chan none, .chan none, .chan none, .chan none, .chan none, .chan none, .chan none, .chan none, .chan none, .chan none, .chan none, .chan none, .chan none, .chan none, .chan none, .chan none, .chan none, .chan none, .chan none, .chan none, .chan none, .chan none, .chan none, .chan none, .chan none, .chan none, .chan none, .chan none, .chan none, .chan none, .chan none, .chan none, .chan none, .chan none, .chan none, .chan none, .chan none, .chan none, .chan none, .chan none, .chan none, .chan none, .chan none, .chan none, .chan none, .chan none, .chan none, .chan none, .chan none]) (n := s.length - i) rfl ⟨0, rfl, by omega, ⟨by omega, by simp⟩, rfl, rfl⟩ ?_
    rintro q a L4 ⟨off, rfl, ho, hpr, rfl, rfl⟩
    have hdd : (s.drop i).drop off = s.drop (i + off) := by rw [List.drop_drop]
    have hdc : (c :: s.drop (i + 1)).drop off = s.drop (i + off) := by rw [← hcons, hdd]
    have stop : (plainK (s.drop (i + off))).2 = 0 → wordK (c :: s.drop (i + 1)) = ((s.drop i).take off, off) := fun h => by
      have h1 := hpr.stop (by rw [hdd]; exact h)
      rw [hcons] at h1
      simp only [wordK, if_neg h34]
      rw [h1, hcons]
    by_cases h2 : i + off < s.length
    · have hc3 : s.drop (i + off) = s[i + off] :: s.drop (i + off + 1) := List.drop_eq_getElem_cons h2
      have hg3 : s[i + off]? = some (s[i + off]'h2) := List.getElem?_eq_getElem h2
      generalize s[i + off] = e at hc3 hg3
      have bt : (!ileB (s.length : Int) ((i + off : Nat) : Int)) = true := by rw [ileB_eq]; simp; omega
      repeat refine LS.seq ?_
      refine LS.region rfl ?_
      refine OS.pure rfl (fun _ => rfl) rfl ?_
      refine OS.pure rfl (fun _ => rfl) rfl ?_
      refine OS.pure rfl (fun _ => rfl) rfl ?_
      refine OS.pure rfl (e_is (fun _ => rfl) (congrArg Value.bool bt)) rfl ?_
      refine OS.pure rfl (fun _ => rfl) rfl ?_
      refine OS.pure rfl (fun _ => rfl) rfl ?_
      refine OS.pure rfl (fun _ => rfl) rfl ?_
      refine OS.pure rfl (e_byte (s := s) (j := i + off) rfl rfl rfl rfl hg3) rfl ?_
      refine OS.call noGo rfl (fun _ => rfl) ((blank_ct e).mono ?_)
      rintro v L6 ⟨rfl, rfl⟩
      refine ⟨_, rfl, ?_⟩
      refine OS.pure rfl (fun _ => rfl) rfl ?_
      refine OS.pure rfl (fun _ => rfl) rfl ?_
      refine OS.nil ?_
      repeat refine LS.seq ?_
      refine LS.cond rfl (fun hbe => ?_) (fun hbe => ?_)
      · have hbe : isBl e = false := by simpa using hbe
        refine LS.skip ?_
        repeat refine LS.seq ?_
        refine LS.block ?_
        by_cases hP : isP e = true
        · have hP' := hP
          simp only [isP, Bool.and_eq_true, decide_eq_true_eq, Bool.not_eq_true', beq_eq_false_iff_ne] at hP'
          obtain ⟨⟨p1, p2⟩, p3⟩ := hP'
          have c1 : (!ileB 33 (e.toNat : Int)) = false := by rw [ileB_eq]; simp; omega
          have c2 : (!ileB (e.toNat : Int) 126) = false := by rw [ileB_eq]; simp; omega
          have c3 : ieqB (e.toNat : Int) 34 = false := by
            rw [ieqB_eq]; simp [← UInt8.toNat_inj] at p3 ⊢; omega
          repeat refine LS.seq ?_
          refine LS.region rfl ?_
          refine OS.pure rfl (fun _ => rfl) rfl ?_
          refine OS.pure rfl (fun _ => rfl) rfl ?_
          refine OS.pure rfl (e_byte (s := s) (j := i + off) rfl rfl rfl rfl hg3) rfl ?_
          refine OS.pure rfl (e_is (fun _ => rfl) (congrArg Value.bool c1)) rfl ?_
          refine OS.pure rfl (fun _ => rfl) rfl ?_
          refine OS.pure rfl (fun _ => rfl) rfl ?_
          refine OS.pure rfl (fun _ => rfl) rfl ?_
          refine OS.pure rfl (e_byte (s := s) (j := i + off) rfl rfl rfl rfl hg3) rfl ?_
          refine OS.pure rfl (e_is (fun _ => rfl) (congrArg Value.bool c2)) rfl ?_
          refine OS.pure rfl (fun _ => rfl) rfl ?_
          refine OS.pure rfl (fun _ => rfl) rfl ?_
          refine OS.pure rfl (fun _ => rfl) rfl ?_
          refine OS.pure rfl (fun _ => rfl) rfl ?_
          refine OS.pure rfl (e_byte (s := s) (j := i + off) rfl rfl rfl rfl hg3) rfl ?_
          refine OS.pure rfl (e_is (fun _ => rfl) (congrArg Value.bool c3)) rfl ?_
          refine OS.pure rfl (fun _ => rfl) rfl ?_
          refine OS.nil ?_
          repeat refine LS.seq ?_
          refine LS.cond rfl (fun h => ?_) (fun h => ?_)
          · cases h
          refine LS.skip ?_
          repeat refine LS.seq ?_
          refine LS.region rfl ?_
          refine OS.pure rfl (fun _ => rfl) rfl ?_
          refine OS.pure rfl (e_add (m := ((i + off : Nat) : Int)) (n := 1) rfl rfl rfl (in_i64 (by omega) (by omega))) rfl ?_
          rw [show ((i + off : Nat) : Int) + 1 = ((i + (off + 1) : Nat) : Int) by omega]
          refine OS.pure rfl (fun _ => rfl) rfl ?_
          refine OS.nil ?_
          exact ⟨s.length - (i + (off + 1)), by omega, off + 1, rfl, by omega, hpr.more (by rw [hdd]; exact hc3) hP, rfl, rfl⟩
        · have hw := stop (by rw [hc3]; simp [plainK, hP])
          have hnone : splitW s = none := by rw [hcur, ref_bad h35 hw (by rw [hdc]; exact hc3) hbe]; rfl
          by_cases p1 : 32 < e.toNat
          · have c1 : (!ileB 33 (e.toNat : Int)) = false := by rw [ileB_eq]; simp; omega
            by_cases p2 : e.toNat ≤ 126
            · have p3 : e = 34 := by
                by_cases h : e = 34
                · exact h
                · exfalso; exact hP (by simp [isP, p1, p2, h])
              have c2 : (!ileB (e.toNat : Int) 126) = false := by rw [ileB_eq]; simp; omega
              have c3 : ieqB (e.toNat : Int) 34 = true := by rw [p3]; rfl
              repeat refine LS.seq ?_
              refine LS.region rfl ?_
              refine OS.pure rfl (fun _ => rfl) rfl ?_
              refine OS.pure rfl (fun _ => rfl) rfl ?_
              refine OS.pure rfl (e_byte (s := s) (j := i + off) rfl rfl rfl rfl hg3) rfl ?_
              refine OS.pure rfl (e_is (fun _ => rfl) (congrArg Value.bool c1)) rfl ?_
              refine OS.pure rfl (fun _ => rfl) rfl ?_
              refine OS.pure rfl (fun _ => rfl) rfl ?_
              refine OS.pure rfl (fun _ => rfl) rfl ?_
              refine OS.pure rfl (e_byte (s := s) (j := i + off) rfl rfl rfl rfl hg3) rfl ?_
              refine OS.pure rfl (e_is (fun _ => rfl) (congrArg Value.bool c2)) rfl ?_
              refine OS.pure rfl (fun _ => rfl) rfl ?_
              refine OS.pure rfl (fun _ => rfl) rfl ?_
              refine OS.pure rfl (fun _ => rfl) rfl ?_
              refine OS.pure rfl (fun _ => rfl) rfl ?_
              refine OS.pure rfl (e_byte (s := s) (j := i + off) rfl rfl rfl rfl hg3) rfl ?_
              refine OS.pure rfl (e_is (fun _ => rfl) (congrArg Value.bool c3)) rfl ?_
              refine OS.pure rfl (fun _ => rfl) rfl ?_
              refine OS.nil ?_
              repeat refine LS.seq ?_
              refine LS.cond rfl (fun h => ?_) (fun h => ?_)
              · repeat refine LS.seq ?_
                refine LS.region rfl ?_
                refine OS.pure rfl (fun _ => rfl) rfl ?_
                refine OS.pure rfl (fun _ => rfl) rfl ?_
                refine OS.nil ?_
                refine LS.ret ⟨_, fun _ _ => rfl, ?_⟩
                exact .inr (.inl ⟨hl4, hnone, rfl, GV.less hg⟩)
              · cases h
            · have c2 : (!ileB (e.toNat : Int) 126) = true := by rw [ileB_eq]; simp; omega
              repeat refine LS.seq ?_
              refine LS.region rfl ?_
              refine OS.pure rfl (fun _ => rfl) rfl ?_
              refine OS.pure rfl (fun _ => rfl) rfl ?_
              refine OS.pure rfl (e_byte (s := s) (j := i + off) rfl rfl rfl rfl hg3) rfl ?_
              refine OS.pure rfl (e_is (fun _ => rfl) (congrArg Value.bool c1)) rfl ?_
              refine OS.pure rfl (fun _ => rfl) rfl ?_
              refine OS.pure rfl (fun _ => rfl) rfl ?_
              refine OS.pure rfl (fun _ => rfl) rfl ?_
              refine OS.pure rfl (e_byte (s := s) (j := i + off) rfl rfl rfl rfl hg3) rfl ?_
              refine OS.pure rfl (e_is (fun _ => rfl) (congrArg Value.bool c2)) rfl ?_
              refine OS.pure rfl (fun _ => rfl) rfl ?_
              refine OS.pure rfl (fun _ => rfl) rfl ?_
              refine OS.skip rfl rfl ?_
              refine OS.skip rfl rfl ?_
              refine OS.skip rfl rfl ?_
              refine OS.skip rfl rfl ?_
              refine OS.pure rfl (fun _ => rfl) rfl ?_
              refine OS.nil ?_
              repeat refine LS.seq ?_
              refine LS.cond rfl (fun h => ?_) (fun h => ?_)
              · repeat refine LS.seq ?_
                refine LS.region rfl ?_
                refine OS.pure rfl (fun _ => rfl) rfl ?_
                refine OS.pure rfl (fun _ => rfl) rfl ?_
                refine OS.nil ?_
                refine LS.ret ⟨_, fun _ _ => rfl, ?_⟩
                exact .inr (.inl ⟨hl4, hnone, rfl, GV.less hg⟩)
              · cases h
          · have c1 : (!ileB 33 (e.toNat : Int)) = true := by rw [ileB_eq]; simp; omega
            repeat refine LS.seq ?_
            refine LS.region rfl ?_
            refine OS.pure rfl (fun _ => rfl) rfl ?_
            refine OS.pure rfl (fun _ => rfl) rfl ?_
            refine OS.pure rfl (e_byte (s := s) (j := i + off) rfl rfl rfl rfl hg3) rfl ?_
            refine OS.pure rfl (e_is (fun _ => rfl) (congrArg Value.bool c1)) rfl ?_
            refine OS.pure rfl (fun _ => rfl) rfl ?_
            refine OS.skip rfl rfl ?_
            refine OS.skip rfl rfl ?_
            refine OS.skip rfl rfl ?_
            refine OS.skip rfl rfl ?_
            refine OS.pure rfl (fun _ => rfl) rfl ?_
            refine OS.pure rfl (fun _ => rfl) rfl ?_
            refine OS.skip rfl rfl ?_
            refine OS.skip rfl rfl ?_
            refine OS.skip rfl rfl ?_
            refine OS.skip rfl rfl ?_
            refine OS.pure rfl (fun _ => rfl) rfl ?_
            refine OS.nil ?_
            repeat refine LS.seq ?_
            refine LS.cond rfl (fun h => ?_) (fun h => ?_)
            · repeat refine LS.seq ?_
              refine LS.region rfl ?_
              refine OS.pure rfl (fun _ => rfl) rfl ?_
              refine OS.pure rfl (fun _ => rfl) rfl ?_
              refine OS.nil ?_
              refine LS.ret ⟨_, fun _ _ => rfl, ?_⟩
              exact .inr (.inl ⟨hl4, hnone, rfl, GV.less hg⟩)
            · cases h
      · have hbe : isBl e = true := by simpa using hbe
        have hw := stop (by rw [hc3]; simp [plainK, blank_not hbe])
        have hoff : 0 < off := by
          rcases Nat.eq_zero_or_pos off with h | h
          · subst h
            rw [Nat.add_zero, hcons] at hc3
            simp at hc3
            rw [hc3] at hb; rw [hb] at hbe; cases hbe
          · exact h
        refine LS.exit ?_
        repeat refine LS.seq ?_
        refine LS.region rfl ?_
        refine OS.pure rfl (fun _ => rfl) rfl ?_
        refine OS.pure rfl (fun _ => rfl) rfl ?_
        refine OS.pure rfl (fun _ => rfl) rfl ?_
        refine OS.pure rfl (fun _ => rfl) rfl ?_
        refine OS.pure rfl (e_part (s := s) (l := i) (u := i + off) rfl rfl rfl rfl (bound_nat (d := 0)) (bound_nat (d := s.length)) rfl (by omega) (by omega)) rfl ?_
        rw [show i + off - i = off by omega]
        refine OS.fresh rfl (e_new (fun _ => rfl) rfl) (fun _ => rfl) (fun r2 => ?_)
        refine OS.fresh rfl (e_appendGV [(r2, _)] (m := 1) (sz := 1) (bts := 16) hg (SV.row (sz := 1) (n := 1) (List.mem_cons_self ..) rfl) (by omega) rfl rfl rfl rfl (by omega) (by omega)) (fun _ => rfl) (fun r3 => ?_)
        refine OS.pure rfl (fun _ => rfl) rfl ?_
        refine OS.sub (Sub.drop 1 rfl) ?_
        refine OS.nil ?_
        refine ⟨s.length - (i + off), by omega, ws ++ [(s.drop i).take off], _, i + off, rfl, by omega, by simp; omega, ?_, ?_, rfl⟩
        · rw [hcur, ref_more h35 hw (by rw [hdc]; exact .inr ⟨e, _, hc3, hbe⟩), hdc]
          simp [Function.comp_def]
        · rw [strs_snoc, List.length_append]; exact GV.of (by simp [strs])
    · have h0 : s.drop (i + off) = [] := List.drop_eq_nil_of_le (by omega)
      have hw := stop (by rw [h0]; rfl)
      have bt : (!ileB (s.length : Int) ((i + off : Nat) : Int)) = false := by rw [ileB_eq]; simp; omega
      repeat refine LS.seq ?_
      refine LS.region rfl ?_
      refine OS.pure rfl (fun _ => rfl) rfl ?_
      refine OS.pure rfl (fun _ => rfl) rfl ?_
      refine OS.pure rfl (fun _ => rfl) rfl ?_
      refine OS.pure rfl (e_is (fun _ => rfl) (congrArg Value.bool bt)) rfl ?_
      refine OS.pure rfl (fun _ => rfl) rfl ?_
      refine OS.skip rfl rfl ?_
      refine OS.skip rfl rfl ?_
      refine OS.skip rfl rfl ?_
      refine OS.skip rfl rfl ?_
      refine OS.skip rfl rfl ?_
      refine OS.pure rfl (fun _ => rfl) rfl ?_
      refine OS.nil ?_
      repeat refine LS.seq ?_
      refine LS.cond rfl (fun h => ?_) (fun h => ?_)
      · cases h
      refine LS.exit ?_
      repeat refine LS.seq ?_
      refine LS.region rfl ?_
      refine OS.pure rfl (fun _ => rfl) rfl ?_
      refine OS.pure rfl (fun _ => rfl) rfl ?_
      refine OS.pure rfl (fun _ => rfl) rfl ?_
      refine OS.pure rfl (fun _ => rfl) rfl ?_
      refine OS.pure rfl (e_part (s := s) (l := i) (u := i + off) rfl rfl rfl rfl (bound_nat (d := 0)) (bound_nat (d := s.length)) rfl (by omega) (by omega)) rfl ?_
      rw [show i + off - i = off by omega]
      refine OS.fresh rfl (e_new (fun _ => rfl) rfl) (fun _ => rfl) (fun r2 => ?_)
      refine OS.fresh rfl (e_appendGV [(r2, _)] (m := 1) (sz := 1) (bts := 16) hg (SV.row (sz := 1) (n := 1) (List.mem_cons_self ..) rfl) (by omega) rfl rfl rfl rfl (by omega) (by omega)) (fun _ => rfl) (fun r3 => ?_)
      refine OS.pure rfl (fun _ => rfl) rfl ?_
      refine OS.sub (Sub.drop 1 rfl) ?_
      refine OS.nil ?_
      refine ⟨s.length - (i + off), by omega, ws ++ [(s.drop i).take off], _, i + off, rfl, by omega, by simp; omega, ?_, ?_, rfl⟩
      · rw [hcur, ref_more h35 hw (by rw [hdc]; exact .inl h0), hdc]
        simp [Function.comp_def]
      · rw [strs_snoc, List.length_append]; exact GV.of (by simp [strs])
  · have hii : i = s.length := by omega
    subst hii
    have bl : (!ileB (s.length : Int) (s.length : Nat)) = false := by rw [ileB_eq]; simp
    have be : ieqB ((s.length : Nat) : Int) (s.length : Nat) = true := by rw [ieqB_eq]; simp
    have hcur : splitW s = some ws := by rw [hsp]; unfold splitW; rw [hdw, List.drop_length]; simp [spl, splF]
    repeat refine LS.seq ?_
    refine LS.region rfl ?_
    refine OS.pure rfl (fun _ => rfl) rfl ?_
    refine OS.pure rfl (fun _ => rfl) rfl ?_
    refine OS.pure rfl (fun _ => rfl) rfl ?_
    refine OS.pure rfl (e_is (fun _ => rfl) (congrArg Value.bool bl)) rfl ?_
    refine OS.pure rfl (fun _ => rfl) rfl ?_
    refine OS.skip rfl rfl ?_
    refine OS.skip rfl rfl ?_
    refine OS.skip rfl rfl ?_
    refine OS.skip rfl rfl ?_
    refine OS.pure rfl (fun _ => rfl) rfl ?_
    refine OS.nil ?_
    repeat refine LS.seq ?_
    refine LS.cond rfl (fun h => ?_) (fun h => ?_)
    · cases h
    refine LS.exit ?_
    repeat refine LS.seq ?_
    refine LS.region rfl ?_
    refine OS.pure rfl (fun _ => rfl) rfl ?_
    refine OS.pure rfl (fun _ => rfl) rfl ?_
    refine OS.pure rfl (fun _ => rfl) rfl ?_
    refine OS.pure rfl (e_is (fun _ => rfl) (congrArg Value.bool be)) rfl ?_
    refine OS.nil ?_
    repeat refine LS.seq ?_
    refine LS.cond rfl (fun h => ?_) (fun h => ?_)
    · repeat refine LS.seq ?_
      refine LS.region rfl ?_
      refine OS.pure rfl (fun _ => rfl) rfl ?_
      refine OS.pure rfl (fun _ => rfl) rfl ?_
      refine OS.pure rfl (fun _ => rfl) rfl ?_
      refine OS.nil ?_
      refine LS.ret ⟨_, fun _ _ => rfl, ?_⟩
      exact .inr (.inr ⟨hl4, ws, out, hcur, rfl, hg⟩)
    · cases h
end Go.Proofs.YtfmgoagkjjmefaaGreatDoor
