/- Layer 2: the document's Lines. -/
import Derived.Test.YtdffhllecojgcaaDoorWu
namespace Go.Proofs.YtdffhllecojgcaaDoor
open Go.Am
set_option linter.unusedVariables false
set_option maxRecDepth 20000

abbrev accW (a : List UInt8) (no : Nat) (acc : LnT) : LnT := if wordsOf a = [] then acc else acc ++ [(no, wordsOf a)]
theorem LO_ok {a : List UInt8} {no : Nat} {acc : LnT} {R : List (List UInt8)} (h : errOf a = 0) : LO wordsOf errOf no acc (a :: R) = LO wordsOf errOf (no + 1) (accW a no acc) R := by rw [LO, if_pos h]
theorem LO_bad {a : List UInt8} {no : Nat} {acc : LnT} {R : List (List UInt8)} (h : errOf a ≠ 0) : LO wordsOf errOf no acc (a :: R) = ([], no, errOf a) := by rw [LO, if_neg h]
/-- Where the document's Lines stands. -/
def RS (s : List UInt8) (fr i no : Nat) (acc : LnT) : Prop :=
  (fr ≤ i ∧ i ≤ s.length ∧ linesV s = LO wordsOf errOf no acc (segs (s.drop fr)) ∧ 10 ∉ (s.drop fr).take (i - fr)) ∨ (i = s.length + 1 ∧ linesV s = (acc, 0, 0))
theorem refLines_ct {L : RL} (s : List UInt8) (hs : s.length ≤ 100000) : CS Tryd.prog 17 [str s] L fun v L' => LQ s L v L' := by
  refine CS.mk (fn := Tryd.f17) rfl rfl rfl rfl ?_
  repeat refine LS.seq ?_
  refine LS.region rfl ?_
  refine OS.pure rfl (fun _ => rfl) rfl ?_
  refine OS.pure rfl (fun _ => rfl) rfl ?_
  refine OS.pure rfl (fun _ => rfl) rfl ?_
  refine OS.nil ?_
  repeat refine LS.seq ?_
  refine LS.region rfl ?_
  refine OS.pure rfl (fun _ => rfl) rfl ?_
  refine OS.nil ?_
  repeat refine LS.seq ?_
  refine LS.region rfl ?_
  refine OS.pure rfl (fun _ => rfl) rfl ?_
  refine OS.pure rfl (fun _ => rfl) rfl ?_
  refine OS.nil ?_
  repeat refine LS.seq ?_
  refine LS.region rfl ?_
  refine OS.pure rfl (fun _ => rfl) rfl ?_
  refine OS.nil ?_
  repeat refine LS.seq ?_
  refine LS.block ?_
  refine LS.loopJ [0, 5, 6, 7, 8] (fun q a L' => ∃ (fr i no : Nat) (acc : LnT) (lv : Value) (cs : List Value) (Y : RL), q = s.length + 1 - i ∧ i ≤ s.length + 1 ∧ fr ≤ i ∧ no ≤ i + 1 ∧ acc.length ≤ i ∧ RS s fr i no acc ∧ GV 40 2 Y lv acc.length cs L' ∧ LNs Y acc cs ∧ (∀ p, p ∈ L → p ∈ Y) ∧ a = [str s, .chan none, .chan none, .chan none, .chan none, lv, .int .i64 (fr : Nat), .int .i64 (no : Nat), .int .i64 (i : Nat), .chan none, .chan none, .chan none, .chan none, .chan none, .chan none, .chan none, .chan none, .chan none, .chan none, .chan none, .chan none, .chan none, .chan none, .chan none, .chan none, .chan none, .chan none, .chan none, .chan none, .chan none, .chan none, .chan none, .chan none, .chan none, .chan none, .chan none, .chan none, .chan none, .chan none, .chan none, .chan none, .chan none, .chan none, .chan none, .chan none, .chan none, .chan none, .chan none, .chan none, .chan none, .chan none, .chan none, .chan none]) (n := s.length + 1) rfl ⟨0, 0, 1, [], _, [], L, rfl, by omega, by omega, by omega, by simp, .inl ⟨by omega, by omega, by simp [linesV], by simp⟩, GV.nil, rfl, fun _ h => h, rfl⟩ ?_
  rintro q a L' ⟨fr, i, no, acc, lv, cs, Y, rfl, hi, hfi, hno, hac, hRS, hg, hln, hY, rfl⟩
  rcases hRS with ⟨h1, h2, hl, hn⟩ | ⟨h1, hl⟩
  · have b0 : ileB (i : Int) (s.length : Nat) = true := by rw [ileB_eq]; simp; omega
    repeat refine LS.seq ?_
    refine LS.region rfl ?_
    refine OS.pure rfl (fun _ => rfl) rfl ?_
    refine OS.pure rfl (fun _ => rfl) rfl ?_
    refine OS.pure rfl (fun _ => rfl) rfl ?_
    refine OS.pure rfl (e_is (fun _ => rfl) (congrArg Value.bool b0)) rfl ?_
    refine OS.nil ?_
    refine LS.cond rfl (fun h => ?_) (fun h => by cases h)
    refine LS.skip ?_
    refine LS.seq ?_
    refine LS.mid [0, 5, 6, 7, 8] (fun a L2 => ∃ (fr' no' : Nat) (acc' : LnT) (lv' : Value) (cs' : List Value) (Y' : RL), fr' ≤ i + 1 ∧ no' ≤ i + 2 ∧ acc'.length ≤ i + 1 ∧ RS s fr' (i + 1) no' acc' ∧ GV 40 2 Y' lv' acc'.length cs' L2 ∧ LNs Y' acc' cs' ∧ (∀ p, p ∈ L → p ∈ Y') ∧ a = [str s, .chan none, .chan none, .chan none, .chan none, lv', .int .i64 (fr' : Nat), .int .i64 (no' : Nat), .int .i64 (i : Nat), .chan none, .chan none, .chan none, .chan none, .chan none, .chan none, .chan none, .chan none, .chan none, .chan none, .chan none, .chan none, .chan none, .chan none, .chan none, .chan none, .chan none, .chan none, .chan none, .chan none, .chan none, .chan none, .chan none, .chan none, .chan none, .chan none, .chan none, .chan none, .chan none, .chan none, .chan none, .chan none, .chan none, .chan none, .chan none, .chan none, .chan none, .chan none, .chan none, .chan none, .chan none, .chan none, .chan none, .chan none]) ?_ ?_
    · repeat refine LS.seq ?_
      refine LS.block ?_
      refine LS.seq ?_
      refine LS.mid [0, 5, 6, 7, 8] (fun a L2 => (∃ R, linesV s = LO wordsOf errOf no acc ((s.drop fr).take (i - fr) :: R) ∧ ((R = [] ∧ i = s.length) ∨ (R = segs (s.drop (i + 1)) ∧ i < s.length))) ∧ L2 = L' ∧ a = [str s, .chan none, .chan none, .chan none, .chan none, lv, .int .i64 (fr : Nat), .int .i64 (no : Nat), .int .i64 (i : Nat), .chan none, .chan none, .chan none, .chan none, .chan none, .chan none, .chan none, .chan none, .chan none, .chan none, .chan none, .chan none, .chan none, .chan none, .chan none, .chan none, .chan none, .chan none, .chan none, .chan none, .chan none, .chan none, .chan none, .chan none, .chan none, .chan none, .chan none, .chan none, .chan none, .chan none, .chan none, .chan none, .chan none, .chan none, .chan none, .chan none, .chan none, .chan none, .chan none, .chan none, .chan none, .chan none, .chan none, .chan none]) ?_ ?_
      · rcases Nat.lt_or_ge i s.length with hlt | hge
        · have b1 : (!ileB (s.length : Int) (i : Nat)) = true := by rw [ileB_eq]; simp; omega
          have hcons : s.drop i = s[i] :: s.drop (i + 1) := List.drop_eq_getElem_cons hlt
          have hget : s[i]? = some (s[i]'hlt) := List.getElem?_eq_getElem hlt
          generalize s[i] = c at hcons hget
          repeat refine LS.seq ?_
          refine LS.region rfl ?_
          refine OS.pure rfl (fun _ => rfl) rfl ?_
          refine OS.pure rfl (fun _ => rfl) rfl ?_
          refine OS.pure rfl (fun _ => rfl) rfl ?_
          refine OS.pure rfl (e_is (fun _ => rfl) (congrArg Value.bool b1)) rfl ?_
          refine OS.pure rfl (fun _ => rfl) rfl ?_
          refine OS.pure rfl (fun _ => rfl) rfl ?_
          refine OS.pure rfl (fun _ => rfl) rfl ?_
          refine OS.pure rfl (e_byte (s := s) (j := i) rfl rfl rfl rfl hget) rfl ?_
          refine OS.pure rfl (fun _ => rfl) rfl ?_
          refine OS.pure rfl (fun _ => rfl) rfl ?_
          refine OS.nil ?_
          by_cases h10 : c = 10
          · subst h10
            repeat refine LS.seq ?_
            refine LS.cond rfl (fun h => ?_) (fun h => ?_)
            · cases h
            refine LS.skip ⟨⟨segs (s.drop (i + 1)), ?_, .inr ⟨rfl, hlt⟩⟩, rfl, rfl⟩
            have e1 : s.drop fr = (s.drop fr).take (i - fr) ++ 10 :: s.drop (i + 1) := by
              rw [← hcons, show s.drop i = (s.drop fr).drop (i - fr) by rw [List.drop_drop]; congr 1; omega, List.take_append_drop]
            rw [hl]
            conv => lhs; rw [e1]
            rw [segs_at hn]
          · have b2 : (!ieqB (c.toNat : Int) 10) = true := by
              rw [ieqB_eq]; simp [← UInt8.toNat_inj] at h10 ⊢; omega
            refine LS.cond (b := true) (by rw [← b2]; rfl) (fun h => ?_) (fun h => by cases h)
            refine LS.exit ?_
            refine ⟨fr, no, acc, lv, cs, Y, by omega, by omega, by omega, .inl ⟨by omega, by omega, hl, ?_⟩, hg, hln, hY, rfl⟩
            rw [show i + 1 - fr = (i - fr) + 1 by omega, List.take_add_one]
            have : (s.drop fr)[i - fr]? = some c := by rw [List.getElem?_drop, show fr + (i - fr) = i by omega, hget]
            rw [this]
            simp only [Option.toList_some, List.mem_append, List.mem_singleton, not_or]
            exact ⟨hn, fun h => h10 h.symm⟩
        · have hi' : i = s.length := by omega
          have b1 : (!ileB (s.length : Int) (i : Nat)) = false := by rw [ileB_eq]; simp; omega
          repeat refine LS.seq ?_
          refine LS.region rfl ?_
          refine OS.pure rfl (fun _ => rfl) rfl ?_
          refine OS.pure rfl (fun _ => rfl) rfl ?_
          refine OS.pure rfl (fun _ => rfl) rfl ?_
          refine OS.pure rfl (e_is (fun _ => rfl) (congrArg Value.bool b1)) rfl ?_
          refine OS.pure rfl (fun _ => rfl) rfl ?_
          refine OS.skip rfl rfl ?_
          refine OS.skip rfl rfl ?_
          refine OS.skip rfl rfl ?_
          refine OS.skip rfl rfl ?_
          refine OS.pure rfl (fun _ => rfl) rfl ?_
          refine OS.nil ?_
          repeat refine LS.seq ?_
          refine LS.cond rfl (fun h => ?_) (fun h => ?_)
          · cases h
          refine LS.skip ⟨⟨[], ?_, .inl ⟨rfl, hi'⟩⟩, rfl, rfl⟩
          have e1 : (s.drop fr).take (i - fr) = s.drop fr := List.take_of_length_le (by rw [List.length_drop]; omega)
          rw [e1] at hn ⊢
          rw [hl, segs_no hn]
      rintro a L2 ⟨⟨R, hlR, hR⟩, rfl, rfl⟩
      generalize hA : (s.drop fr).take (i - fr) = A at hlR
      have hAl : A.length ≤ s.length := by rw [← hA, List.length_take, List.length_drop]; omega
      repeat refine LS.seq ?_
      refine LS.region rfl ?_
      refine OS.pure rfl (fun _ => rfl) rfl ?_
      refine OS.pure rfl (fun _ => rfl) rfl ?_
      refine OS.pure rfl (fun _ => rfl) rfl ?_
      refine OS.pure rfl (e_part (s := s) (l := fr) (u := i) rfl rfl rfl rfl (bound_nat (d := 0)) (bound_nat (d := s.length)) rfl (by omega) (by omega)) rfl ?_
      rw [hA]
      refine OS.call noGo rfl (fun _ => rfl) ((refSplit_ct A (by omega)).mono ?_)
      rintro v L3 h
      obtain ⟨u, rfl, hgu⟩ := h.sq
      refine ⟨_, rfl, ?_⟩
      refine OS.pure rfl (fun _ => rfl) rfl ?_
      refine OS.pure rfl (fun _ => rfl) rfl ?_
      refine OS.pure rfl (fun _ => rfl) rfl ?_
      refine OS.pure rfl (fun _ => rfl) rfl ?_
      refine OS.pure rfl (fun _ => rfl) rfl ?_
      refine OS.nil ?_
      have fin : ∀ acc', linesV s = LO wordsOf errOf (no + 1) acc' R → RS s (i + 1) (i + 1) (no + 1) acc' := fun acc' h => by
        rcases hR with ⟨rfl, h2⟩ | ⟨rfl, h2⟩
        · exact .inr ⟨by omega, h⟩
        · exact .inl ⟨by omega, by omega, h, by simp⟩
      rcases errOf_cases A with h0 | ⟨hne, h0⟩
      · have b1 : (!ieqB (errOf A) 0) = false := by rw [h0]; rfl
        rw [LO_ok h0] at hlR
        repeat refine LS.seq ?_
        refine LS.region rfl ?_
        refine OS.pure rfl (fun _ => rfl) rfl ?_
        refine OS.pure rfl (e_is (fun _ => rfl) (congrArg Value.bool b1)) rfl ?_
        refine OS.nil ?_
        repeat refine LS.seq ?_
        refine LS.cond rfl (fun h => ?_) (fun h => ?_)
        · cases h
        refine LS.skip ?_
        refine LS.seq ?_
        refine LS.mid [0, 5, 6, 7, 8] (fun a L4 => ∃ (lv' : Value) (cs' : List Value) (Y' : RL), (accW A no acc).length ≤ i + 1 ∧ GV 40 2 Y' lv' (accW A no acc).length cs' L4 ∧ LNs Y' (accW A no acc) cs' ∧ (∀ p, p ∈ L → p ∈ Y') ∧ a = [str s, .chan none, .chan none, .chan none, .chan none, lv', .int .i64 (fr : Nat), .int .i64 (no : Nat), .int .i64 (i : Nat), .chan none, .chan none, .chan none, .chan none, .chan none, .chan none, .chan none, .chan none, .chan none, .chan none, .chan none, .chan none, .chan none, .chan none, .chan none, .chan none, .chan none, .chan none, .chan none, .chan none, .chan none, .chan none, .chan none, .chan none, .chan none, .chan none, .chan none, .chan none, .chan none, .chan none, .chan none, .chan none, .chan none, .chan none, .chan none, .chan none, .chan none, .chan none, .chan none, .chan none, .chan none, .chan none, .chan none, .chan none]) ?_ ?_
        · by_cases hw : wordsOf A = []
          · have e1 : accW A no acc = acc := if_pos hw
            rw [hw] at hgu
            rw [e1]
            repeat refine LS.seq ?_
            refine LS.region rfl ?_
            refine OS.pure rfl (fun _ => rfl) rfl ?_
            refine OS.pure rfl (e_len hgu.sv rfl rfl rfl rfl rfl) rfl ?_
            refine OS.pure rfl (fun _ => rfl) rfl ?_
            refine OS.nil ?_
            repeat refine LS.seq ?_
            refine LS.cond rfl (fun h => ?_) (fun h => ?_)
            · cases h
            refine LS.sub (GV.less hgu) ?_
            refine LS.skip ⟨lv, cs, Y, by omega, hg, hln, hY, rfl⟩
          · have e1 : accW A no acc = acc ++ [(no, wordsOf A)] := if_neg hw
            rw [e1]
            have hwl : 0 < (wordsOf A).length := List.length_pos_iff.2 hw
            have bl : (!ileB ((wordsOf A).length : Int) 0) = true := by rw [ileB_eq]; simp; omega
            repeat refine LS.seq ?_
            refine LS.region rfl ?_
            refine OS.pure rfl (fun _ => rfl) rfl ?_
            refine OS.pure rfl (e_len hgu.sv rfl rfl rfl rfl rfl) rfl ?_
            refine OS.pure rfl (e_is (fun _ => rfl) (congrArg Value.bool bl)) rfl ?_
            refine OS.nil ?_
            rcases hgu with ⟨_, hz, _, _⟩ | ⟨ru, rfl, hul, rfl⟩
            · omega
            repeat refine LS.seq ?_
            refine LS.cond rfl (fun h => ?_) (fun h => ?_)
            · repeat refine LS.seq ?_
              refine LS.region rfl ?_
              refine OS.pure rfl (fun _ => rfl) rfl ?_
              refine OS.pure rfl (fun _ => rfl) rfl ?_
              refine OS.pure rfl (fun _ => rfl) rfl ?_
              refine OS.pure rfl (fun _ => rfl) rfl ?_
              refine OS.fresh rfl (e_new (fun _ => rfl) rfl) (fun _ => rfl) (fun rn => ?_)
              refine OS.fresh rfl (e_appendGV [_, _] (m := 1) (sz := 2) (bts := 32) hg (SV.row (sz := 2) (n := 1) (List.mem_cons_self ..) rfl) (by omega) rfl rfl rfl rfl (by omega) (by omega)) (fun _ => rfl) (fun rk => ?_)
              refine OS.pure rfl (fun _ => rfl) rfl ?_
              refine OS.sub (Sub.drop 1 rfl) ?_
              refine OS.nil ?_
              have hsn := LNs.snoc (no := no) (ws := wordsOf A) (SV.row (sz := 1) (e := 9) (r := ru) (cap := openCap) (List.mem_cons_self ..) hul) (hln.mono (N := (ru, .cells 9 (strs (wordsOf A))) :: Y) fun p hp => List.mem_cons_of_mem _ hp)
              refine ⟨_, _, (ru, .cells 9 (strs (wordsOf A))) :: Y, by simp; omega, ?_, hsn, fun p hp => List.mem_cons_of_mem _ (hY p hp), rfl⟩
              rw [List.length_append]
              exact GV.of (by have := hsn.len; simp only [List.length_append, List.length_cons, List.length_nil] at this ⊢; omega)
            · cases h
        rintro a L4 ⟨lv', cs', Y', hac', hg', hln', hY', rfl⟩
        repeat refine LS.seq ?_
        refine LS.region rfl ?_
        refine OS.pure rfl (fun _ => rfl) rfl ?_
        refine OS.pure rfl (e_add (m := (i : Int)) (n := 1) rfl rfl rfl (in_i64 (by omega) (by omega))) rfl ?_
        rw [show ((i : Nat) : Int) + 1 = ((i + 1 : Nat) : Int) by omega]
        refine OS.pure rfl (fun _ => rfl) rfl ?_
        refine OS.nil ?_
        repeat refine LS.seq ?_
        refine LS.region rfl ?_
        refine OS.pure rfl (fun _ => rfl) rfl ?_
        refine OS.pure rfl (e_add (m := (no : Int)) (n := 1) rfl rfl rfl (in_i64 (by omega) (by omega))) rfl ?_
        rw [show ((no : Nat) : Int) + 1 = ((no + 1 : Nat) : Int) by omega]
        refine OS.pure rfl (fun _ => rfl) rfl ?_
        refine OS.nil ?_
        exact ⟨i + 1, no + 1, _, lv', cs', Y', by omega, by omega, hac', fin _ hlR, hg', hln', hY', rfl⟩
      · have b1 : (!ieqB (errOf A) 0) = true := by rw [h0]; rfl
        rw [LO_bad hne] at hlR
        refine LS.sub (GV.less hgu) ?_
        repeat refine LS.seq ?_
        refine LS.region rfl ?_
        refine OS.pure rfl (fun _ => rfl) rfl ?_
        refine OS.pure rfl (e_is (fun _ => rfl) (congrArg Value.bool b1)) rfl ?_
        refine OS.nil ?_
        repeat refine LS.seq ?_
        refine LS.cond rfl (fun h => ?_) (fun h => ?_)
        · repeat refine LS.seq ?_
          refine LS.region rfl ?_
          refine OS.pure rfl (fun _ => rfl) rfl ?_
          refine OS.pure rfl (fun _ => rfl) rfl ?_
          refine OS.pure rfl (fun _ => rfl) rfl ?_
          refine OS.pure rfl (fun _ => rfl) rfl ?_
          refine OS.pure rfl (fun _ => rfl) rfl ?_
          refine OS.nil ?_
          refine LS.ret ⟨_, fun _ _ => rfl, ?_⟩
          exact ⟨.slice none 0 0, [], by rw [hlR]; rfl, by rw [hlR]; exact .inl ⟨rfl, rfl, rfl⟩, by rw [hlR]; rfl, fun p hp => hg.mem p (hY p hp)⟩
        · cases h
    rintro a L2 ⟨fr', no', acc', lv', cs', Y', h1', h2', h3', hRS', hg', hln', hY', rfl⟩
    repeat refine LS.seq ?_
    refine LS.region rfl ?_
    refine OS.pure rfl (fun _ => rfl) rfl ?_
    refine OS.pure rfl (e_add (m := (i : Int)) (n := 1) rfl rfl rfl (in_i64 (by omega) (by omega))) rfl ?_
    rw [show ((i : Nat) : Int) + 1 = ((i + 1 : Nat) : Int) by omega]
    refine OS.pure rfl (fun _ => rfl) rfl ?_
    refine OS.nil ?_
    exact ⟨s.length + 1 - (i + 1), by omega, fr', i + 1, no', acc', lv', cs', Y', rfl, by omega, h1', by omega, h3', hRS', hg', hln', hY', rfl⟩
  · have b0 : ileB (i : Int) (s.length : Nat) = false := by rw [ileB_eq]; simp; omega
    repeat refine LS.seq ?_
    refine LS.region rfl ?_
    refine OS.pure rfl (fun _ => rfl) rfl ?_
    refine OS.pure rfl (fun _ => rfl) rfl ?_
    refine OS.pure rfl (fun _ => rfl) rfl ?_
    refine OS.pure rfl (e_is (fun _ => rfl) (congrArg Value.bool b0)) rfl ?_
    refine OS.nil ?_
    repeat refine LS.seq ?_
    refine LS.cond rfl (fun h => ?_) (fun h => ?_)
    · cases h
    refine LS.exit ?_
    repeat refine LS.seq ?_
    refine LS.region rfl ?_
    refine OS.pure rfl (fun _ => rfl) rfl ?_
    refine OS.pure rfl (fun _ => rfl) rfl ?_
    refine OS.pure rfl (fun _ => rfl) rfl ?_
    refine OS.pure rfl (fun _ => rfl) rfl ?_
    refine OS.nil ?_
    refine LS.ret ⟨_, fun _ _ => rfl, ?_⟩
    exact ⟨lv, cs, by rw [hl]; rfl, by rw [hl]; exact hg.sv, by rw [hl]; exact hln.mono hg.mem, fun p hp => hg.mem p (hY p hp)⟩
end Go.Proofs.YtdffhllecojgcaaDoor
