/- Layer 2: Lines. -/
import Derived.Test.YtdffhllecojgcaaDoorWt
namespace Go.Am
theorem GV.appendR {e : TypeId} {sz n : Nat} {F L : RL} {v : Value} {cs : List Value} (X : RL) (g : GV e sz F v n cs L) : GV e sz (F ++ X) v n cs (L ++ X) := by
  rcases g with ⟨rfl, rfl, rfl, rfl⟩ | ⟨r, rfl, hl, rfl⟩
  · exact .inl ⟨rfl, rfl, rfl, rfl⟩
  · exact .inr ⟨r, rfl, hl, rfl⟩
end Go.Am
namespace Go.Proofs.YtdffhllecojgcaaDoor
open Go.Am
set_option linter.unusedVariables false
set_option maxRecDepth 20000

abbrev LnT := List (Nat × List (List UInt8))
/-- Lines, as cells: a number, and a list of words that lies among the rows. -/
def LNs (M : RL) : LnT → List Value → Prop
  | [], cs => cs = []
  | p :: r, cs => ∃ u cs', cs = .int .i64 (p.1 : Nat) :: u :: cs' ∧ SV 1 M u p.2.length (strs p.2) ∧ LNs M r cs'
theorem LNs.mono {M N : RL} (hm : ∀ p, p ∈ M → p ∈ N) : ∀ {l : LnT} {cs : List Value}, LNs M l cs → LNs N l cs
  | [], _, h => h
  | _ :: _, _, ⟨u, cs', h1, h2, h3⟩ => ⟨u, cs', h1, h2.mono hm, LNs.mono hm h3⟩
theorem LNs.len {M : RL} : ∀ {l : LnT} {cs : List Value}, LNs M l cs → cs.length = l.length * 2
  | [], _, h => by rw [show _ = [] from h]; rfl
  | _ :: _, _, ⟨u, cs', h1, _, h3⟩ => by rw [h1]; have := LNs.len h3; simp only [List.length_cons]; omega
theorem LNs.snoc {M : RL} {no : Nat} {ws : List (List UInt8)} {u : Value} (hu : SV 1 M u ws.length (strs ws)) : ∀ {l : LnT} {cs : List Value}, LNs M l cs → LNs M (l ++ [(no, ws)]) (cs ++ [.int .i64 (no : Nat), u])
  | [], _, h => by rw [show _ = [] from h]; exact ⟨u, [], rfl, hu, rfl⟩
  | _ :: _, _, ⟨u', cs', h1, h2, h3⟩ => ⟨u', _, by rw [h1]; rfl, h2, LNs.snoc hu h3⟩
theorem LNs.at {M : RL} {p : Nat × List (List UInt8)} : ∀ {l : LnT} {cs : List Value} {j : Nat}, LNs M l cs → l[j]? = some p → ∃ u, cs[j * 2]? = some (.int .i64 (p.1 : Nat)) ∧ cs[j * 2 + 1]? = some u ∧ SV 1 M u p.2.length (strs p.2)
  | [], _, _, _, h => by simp at h
  | _ :: _, _, 0, ⟨u, cs', h1, h2, _⟩, h => by
    simp only [List.getElem?_cons_zero, Option.some.injEq] at h
    subst h
    exact ⟨u, by rw [h1]; rfl, by rw [h1]; rfl, h2⟩
  | _ :: _, _, j + 1, ⟨u', cs', h1, _, h3⟩, h => by
    rw [List.getElem?_cons_succ] at h
    obtain ⟨u, e1, e2, e3⟩ := LNs.at h3 h
    exact ⟨u, by rw [h1, show (j + 1) * 2 = j * 2 + 1 + 1 by omega]; exact e1, by rw [h1, show (j + 1) * 2 + 1 = (j * 2 + 1) + 1 + 1 by omega]; exact e2, e3⟩
/-- What a text's lines are. -/
def linesV (s : List UInt8) : LnT × Nat × Int := LO wordsOf errOf 1 [] (segs s)
def LQ (s : List UInt8) (L : RL) (v : Value) (L' : RL) : Prop :=
  ∃ lv cs, v = .tuple #[lv, .int .i64 ((linesV s).2.1 : Nat), .int .i64 (linesV s).2.2] ∧ SV 2 L' lv (linesV s).1.length cs ∧ LNs L' (linesV s).1 cs ∧ ∀ p, p ∈ L → p ∈ L'

/-- The rows of a range over lines: its record, the results, the lines, the digits, the number. -/
abbrev Gx (r r2 r3 r4 r5 r6 r7 rm : Nat) (p : LP) (v2 v3 v4 v5 v7 : Value) (Lx : RL) : RL := (r, .loop p) :: (r2, .cells 32 [v2]) :: (r3, .cells 3 [v3]) :: (r4, .cells 24 [v4]) :: (r5, .cells 32 [v5]) :: (r6, .cells 44 [.map (some rm)]) :: (r7, .cells 3 [v7]) :: Lx
def JSL (s : List UInt8) (L : RL) (r r2 r3 r4 r5 r6 r7 rm : Nat) (p0 : LP) (rest : List (List UInt8)) (no : Nat) (G : RL) : Prop := ∃ acc lv Lx Y cs, LO wordsOf errOf (no + 1) acc rest = linesV s ∧ acc.length ≤ no ∧ G = Gx r r2 r3 r4 r5 r6 r7 rm p0 (.slice none 0 0) (.int .i64 0) (.int .i64 0) lv (.int .i64 (no : Nat)) Lx ∧ GV 39 2 Y lv acc.length cs Lx ∧ LNs Y acc cs ∧ (rm, .map (digE 16) 16) ∈ Y ∧ ∀ p, p ∈ L → p ∈ Y
def DRL (s : List UInt8) (L : RL) (r r2 r3 r4 r5 r6 r7 rm : Nat) (G : RL) : Prop := ∃ lp no e v5 v7 Lx, G = Gx r r2 r3 r4 r5 r6 r7 rm lp (.slice none 0 0) (.int .i64 (no : Nat)) (.int .i64 e) v5 v7 Lx ∧ lp.state ≠ .busy ∧ lp.pending = some .ret ∧ linesV s = ([], no, e) ∧ ∀ p, p ∈ L → p ∈ Lx
def DNL (s : List UInt8) (L : RL) (r r2 r3 r4 r5 r6 r7 rm : Nat) (p0 : LP) (G : RL) : Prop := DRL s L r r2 r3 r4 r5 r6 r7 rm G ∨ ∃ acc lv Lx Y cs v7, linesV s = (acc, 0, 0) ∧ G = Gx r r2 r3 r4 r5 r6 r7 rm p0 (.slice none 0 0) (.int .i64 0) (.int .i64 0) lv v7 Lx ∧ GV 39 2 Y lv acc.length cs Lx ∧ LNs Y acc cs ∧ ∀ p, p ∈ L → p ∈ Y
theorem Lines_ct {L : RL} (s : List UInt8) (hs : s.length ≤ 100000) : CS Tryd.prog 16 [str s] L fun v L' => LQ s L v L' := by
  refine CS.mk (fn := Tryd.f16) rfl rfl rfl rfl ?_
  repeat refine LS.seq ?_
  refine LS.region rfl ?_
  refine OS.fresh rfl (e_new (fun _ => rfl) rfl) (fun _ => rfl) (fun r2 => ?_)
  refine OS.fresh rfl (e_new (fun _ => rfl) rfl) (fun _ => rfl) (fun r3 => ?_)
  refine OS.fresh rfl (e_new (fun _ => rfl) rfl) (fun _ => rfl) (fun r4 => ?_)
  refine OS.nil ?_
  repeat refine LS.seq ?_
  refine LS.region rfl ?_
  refine OS.fresh rfl (e_new (fun _ => rfl) rfl) (fun _ => rfl) (fun r5 => ?_)
  refine OS.nil ?_
  repeat refine LS.seq ?_
  refine LS.region rfl ?_
  refine OS.call noGo rfl (fun _ => rfl) ((digits_ct).mono ?_)
  rintro v L' ⟨rm, rfl, rfl⟩
  refine ⟨_, rfl, ?_⟩
  refine OS.fresh rfl (e_new (fun _ => rfl) rfl) (fun _ => rfl) (fun r6 => ?_)
  refine OS.write rfl (e_store 0 rfl rfl rfl rfl rfl rfl rfl rfl) rfl ?_
  refine OS.nil ?_
  repeat refine LS.seq ?_
  refine LS.region rfl ?_
  refine OS.fresh rfl (e_new (fun _ => rfl) rfl) (fun _ => rfl) (fun r7 => ?_)
  refine OS.write rfl (e_store 0 rfl rfl rfl rfl rfl rfl rfl rfl) rfl ?_
  refine OS.nil ?_
  repeat refine LS.seq ?_
  refine LS.region rfl ?_
  refine OS.pure rfl (fun _ => rfl) rfl ?_
  refine OS.call noGo rfl (fun _ => rfl) ((SplitSeq_ct s).mono ?_)
  rintro v L' ⟨rp, rs, rv, rfl, rfl⟩
  refine ⟨_, rfl, ?_⟩
  refine OS.nil ?_
  repeat refine LS.seq ?_
  refine LS.block ?_
  refine LS.rangeFunc noGo rfl (fun r => ?_)
  generalize hp0 : LP.start _ _ _ _ = p0
  have round : ∀ (a : List UInt8) (R : List (List UInt8)) (no : Nat) (G X : RL), a.length ≤ s.length → no ≤ s.length → JSL s L r r2 r3 r4 r5 r6 r7 rm p0 (a :: R) no G → YS Tryd.prog r [str a] (G ++ X) fun v L' => ∃ G' b, v = .bool b ∧ L' = G' ++ X ∧ if b = true then JSL s L r r2 r3 r4 r5 r6 r7 rm p0 R (no + 1) G' else DRL s L r r2 r3 r4 r5 r6 r7 rm G' := by
    rintro a R no G X ha hno ⟨acc, lv, Lx, Y, cs, hlo, hac, rfl, hg, hln, hrm, hY⟩
    have hgX := hg.appendR X
    subst hp0
    refine YS.mk 0 rfl rfl rfl ?_
    refine LS.region rfl ?_
    refine OS.pure rfl (fun _ => rfl) rfl ?_
    refine OS.nil ?_
    refine ⟨rfl, 0, _, rfl, rfl, ?_⟩
    repeat refine LS.seq ?_
    refine LS.block ?_
    repeat refine LS.seq ?_
    refine LS.region rfl ?_
    refine OS.read rfl (e_load 6 rfl rfl rfl rfl rfl) rfl ?_
    refine OS.pure rfl (e_add (m := (no : Int)) (n := 1) rfl rfl rfl (in_i64 (by omega) (by omega))) rfl ?_
    rw [show ((no : Nat) : Int) + 1 = ((no + 1 : Nat) : Int) by omega]
    refine OS.write rfl (e_store 6 rfl rfl rfl rfl rfl rfl rfl rfl) rfl ?_
    refine OS.nil ?_
    have hrmL : ∀ p, p ∈ Y ++ X → p ∈ Lx ++ X := hgX.mem
    repeat refine LS.seq ?_
    refine LS.region rfl ?_
    refine OS.pure rfl (fun _ => rfl) rfl ?_
    refine OS.read rfl (e_load 5 rfl rfl rfl rfl rfl) rfl ?_
    refine OS.call noGo rfl (fun _ => rfl) ((split_ct (by simp only [List.mem_cons]; exact .inr (.inr (.inr (.inr (.inr (.inr (.inr (hrmL _ (List.mem_append_left _ hrm)))))))) ) a (by omega)).mono ?_)
    rintro v L1 h
    obtain ⟨u, rfl, hgu⟩ := h.sq
    refine ⟨_, rfl, ?_⟩
    refine OS.pure rfl (fun _ => rfl) rfl ?_
    refine OS.pure rfl (fun _ => rfl) rfl ?_
    refine OS.pure rfl (fun _ => rfl) rfl ?_
    refine OS.pure rfl (fun _ => rfl) rfl ?_
    refine OS.pure rfl (fun _ => rfl) rfl ?_
    refine OS.nil ?_
    rcases errOf_cases a with h0 | ⟨hne, h0⟩
    · have b0 : (!ieqB (errOf a) 0) = false := by rw [h0]; rfl
      rw [LO, if_pos h0] at hlo
      repeat refine LS.seq ?_
      refine LS.region rfl ?_
      refine OS.pure rfl (fun _ => rfl) rfl ?_
      refine OS.pure rfl (e_is (fun _ => rfl) (congrArg Value.bool b0)) rfl ?_
      refine OS.nil ?_
      repeat refine LS.seq ?_
      refine LS.cond rfl (fun h => ?_) (fun h => ?_)
      · cases h
      refine LS.skip ?_
      by_cases hw : wordsOf a = []
      · rw [if_pos hw] at hlo
        rw [hw] at hgu
        repeat refine LS.seq ?_
        refine LS.region rfl ?_
        refine OS.pure rfl (fun _ => rfl) rfl ?_
        refine OS.pure rfl (e_len hgu.sv rfl rfl rfl rfl rfl) rfl ?_
        refine OS.pure rfl (fun _ => rfl) rfl ?_
        refine OS.nil ?_
        repeat refine LS.seq ?_
        refine LS.cond rfl (fun h => ?_) (fun h => ?_)
        · cases h
        refine LS.sub (GV.less hgu) ?_
        refine LS.skip ⟨0, _, rfl, rfl, Gx r r2 r3 r4 r5 r6 r7 rm _ _ _ _ _ _ Lx, true, rfl, rfl, ?_⟩
        exact ⟨acc, lv, Lx, Y, cs, hlo, by omega, rfl, hg, hln, hrm, hY⟩
      · rw [if_neg hw] at hlo
        have hwl : 0 < (wordsOf a).length := List.length_pos_iff.2 hw
        have bl : (!ileB ((wordsOf a).length : Int) 0) = true := by rw [ileB_eq]; simp; omega
        repeat refine LS.seq ?_
        refine LS.region rfl ?_
        refine OS.pure rfl (fun _ => rfl) rfl ?_
        refine OS.pure rfl (e_len hgu.sv rfl rfl rfl rfl rfl) rfl ?_
        refine OS.pure rfl (e_is (fun _ => rfl) (congrArg Value.bool bl)) rfl ?_
        refine OS.nil ?_
        rcases hgu with ⟨_, hz, _, _⟩ | ⟨ru, rfl, hul, rfl⟩
        · omega
        repeat refine LS.seq ?_
        refine LS.cond rfl (fun h => ?_) (fun h => ?_)
        · repeat refine LS.seq ?_
          refine LS.region rfl ?_
          refine OS.read rfl (e_load 5 rfl rfl rfl rfl (part_one rfl rfl)) rfl ?_
          refine OS.read rfl (e_load 7 rfl rfl rfl rfl rfl) rfl ?_
          refine OS.pure rfl (fun _ => rfl) rfl ?_
          refine OS.pure rfl (fun _ => rfl) rfl ?_
          refine OS.fresh rfl (e_new (fun _ => rfl) rfl) (fun _ => rfl) (fun rn => ?_)
          refine OS.fresh rfl (e_appendGV [_, _, _, _, _, _, _, _, _] (m := 1) (sz := 2) (bts := 32) hgX (SV.row (sz := 2) (n := 1) (List.mem_cons_self ..) rfl) (by omega) rfl rfl rfl rfl (by omega) (by omega)) (fun _ => rfl) (fun rk => ?_)
          refine OS.write rfl (e_store 7 (n := 1) (cs' := [.slice (some ⟨rk, 0, none⟩) (acc.length + 1) openCap]) rfl rfl rfl rfl rfl rfl rfl rfl) rfl ?_
          refine OS.sub (Sub.drop 1 rfl) ?_
          refine OS.sub (Sub.pulls [8, 8, 8, 8, 8, 8, 8] rfl) ?_
          refine OS.nil ?_
          refine ⟨0, _, rfl, rfl, Gx r r2 r3 r4 r5 r6 r7 rm _ _ _ _ (.slice (some ⟨rk, 0, none⟩) (acc.length + 1) openCap) _ ((rk, .cells 39 (cs ++ [.int .i64 ((no + 1 : Nat) : Int), .slice (some ⟨ru, 0, none⟩) (wordsOf a).length openCap])) :: (ru, .cells 9 (strs (wordsOf a))) :: Y), true, rfl, rfl, ?_⟩
          have hsn := LNs.snoc (no := no + 1) (ws := wordsOf a) (SV.row (sz := 1) (e := 9) (r := ru) (cap := openCap) (List.mem_cons_self ..) hul) (hln.mono (N := (ru, .cells 9 (strs (wordsOf a))) :: Y) fun p hp => List.mem_cons_of_mem _ hp)
          refine ⟨acc ++ [(no + 1, wordsOf a)], _, _, (ru, .cells 9 (strs (wordsOf a))) :: Y, _, hlo, by simp; omega, rfl, ?_, hsn, List.mem_cons_of_mem _ hrm, fun p hp => List.mem_cons_of_mem _ (hY p hp)⟩
          rw [List.length_append]
          exact GV.of (by have := hsn.len; simp only [List.length_append, List.length_cons, List.length_nil] at this ⊢; omega)
        · cases h
    · have b0 : (!ieqB (errOf a) 0) = true := by rw [h0]; rfl
      rw [LO, if_neg hne] at hlo
      refine LS.sub (GV.less hgu) ?_
      repeat refine LS.seq ?_
      refine LS.region rfl ?_
      refine OS.pure rfl (fun _ => rfl) rfl ?_
      refine OS.pure rfl (e_is (fun _ => rfl) (congrArg Value.bool b0)) rfl ?_
      refine OS.nil ?_
      repeat refine LS.seq ?_
      refine LS.cond rfl (fun h => ?_) (fun h => ?_)
      · repeat refine LS.seq ?_
        refine LS.drawn noGo mixed [(0, false), (1, false), (2, true), (3, true), (4, true)] rfl rfl (by kernel_rfl) ?_
        refine ODS.read rfl rfl (e_load 6 rfl rfl rfl rfl rfl) rfl ?_
        refine ODS.pure rfl rfl (fun _ => rfl) rfl ?_
        refine ODS.write rfl rfl (e_store 1 (n := 1) (cs' := [.slice none 0 0]) rfl rfl rfl rfl rfl rfl rfl rfl) rfl (Keep.cons rfl (e_load 6 rfl rfl rfl rfl rfl) Keep.nil) ?_
        refine ODS.write rfl rfl (e_store 2 (n := 1) (cs' := [.int .i64 ((no + 1 : Nat) : Int)]) rfl rfl rfl rfl rfl rfl rfl rfl) rfl (Keep.gone rfl Keep.nil) ?_
        refine ODS.write rfl rfl (e_store 3 (n := 1) (cs' := [.int .i64 (errOf a)]) rfl rfl rfl rfl rfl rfl rfl rfl) rfl (Keep.gone rfl Keep.nil) ?_
        refine ODS.nil ?_
        refine LS.ret ⟨0, _, rfl, rfl, Gx r r2 r3 r4 r5 r6 r7 rm _ _ _ _ _ _ Lx, false, rfl, rfl, ?_⟩
        exact ⟨_, no + 1, errOf a, lv, _, Lx, rfl, by simp [LP.left], rfl, hlo.symm, fun p hp => hg.mem p (hY p hp)⟩
      · cases h
  refine CS.sub (Sub.pulls [4, 5, 7, 8, 9, 10, 6, 7, 9, 9] rfl) ((lines1_ct (G := Gx r r2 r3 r4 r5 r6 r7 rm p0 (.slice none 0 0) (.int .i64 0) (.int .i64 0) (.slice none 0 0) (.int .i64 0) ((rm, .map (digE 16) 16) :: L)) (by omega) (fun t G => ∃ no, no + t.length ≤ s.length ∧ JSL s L r r2 r3 r4 r5 r6 r7 rm p0 (segs t) no G) (DNL s L r r2 r3 r4 r5 r6 r7 rm p0)
    (fun t G ⟨no, _, _, lv, _, _, _, _, _, hG, _⟩ => ⟨p0, by rw [hG]; simp [Gx]⟩) ⟨0, by omega, [], _, _, (rm, .map (digE 16) 16) :: L, [], rfl, by simp, rfl, .nil, rfl, List.mem_cons_self .., fun p hp => List.mem_cons_of_mem _ hp⟩ ?_ ?_).mono ?_)
  · rintro a t G X ha hl ⟨no, hno, hJ⟩
    simp only [List.length_append, List.length_cons] at hno
    rw [segs_at ha] at hJ
    refine (round a (segs t) no G X (by omega) (by omega) hJ).mono ?_
    rintro v L' ⟨G', b, rfl, rfl, h⟩
    refine ⟨G', b, rfl, rfl, ?_⟩
    cases b with
    | true => exact ⟨no + 1, by omega, h⟩
    | false => exact .inl h
  · rintro a G X ha hl ⟨no, hno, hJ⟩
    rw [segs_no ha] at hJ
    refine (round a [] no G X (by omega) (by omega) hJ).mono ?_
    rintro v L' ⟨G', b, rfl, rfl, h⟩
    refine ⟨G', b, rfl, rfl, ?_⟩
    cases b with
    | true =>
      obtain ⟨acc, lv, Lx, Y, cs, h1, _, h3, h4, h5, _, h7⟩ := h
      exact .inr ⟨acc, lv, Lx, Y, cs, _, h1.symm, h3, h4, h5, h7⟩
    | false => exact .inl h
  · rintro v L' ⟨G', t, hD, rfl⟩
    rcases hD with ⟨lp, no, e, v5, v7, Lx, rfl, hst, hpend, hl, hm⟩ | ⟨acc, lv, Lx, Y, cs, v7, hl, rfl, hg, hln, hm⟩
    · refine ⟨3, lp, _, rfl, rfl, hst, ?_⟩
      rw [hpend]
      refine ⟨_, res_cell3 3 4 5 rfl rfl rfl rfl rfl rfl rfl rfl rfl (part_one rfl rfl) (part_one rfl rfl) (part_one rfl rfl), ?_⟩
      refine ⟨.slice none 0 0, [], by rw [hl]; rfl, by rw [hl]; exact .inl ⟨rfl, rfl, rfl⟩, by rw [hl]; rfl, fun p hp => by simp [hm p hp]⟩
    · refine ⟨3, p0, _, rfl, rfl, by subst hp0; simp [LP.start], ?_⟩
      have hpend : p0.pending = none := by subst hp0; rfl
      rw [hpend]
      show LSr _ _ _ _ _ _
      have hone : (Nat.beq lv.cells.toList.length 1 && allOne lv.cells.toList) = true ∧ lay [.slice none 0 0] 0 lv.cells.toList = some [lv] := by rcases hg with ⟨rfl, _, _, _⟩ | ⟨r, rfl, _, _⟩ <;> exact ⟨rfl, rfl⟩
      repeat refine LS.seq ?_
      refine LS.region rfl ?_
      refine OS.read rfl (e_load 6 rfl rfl rfl rfl (part_one rfl rfl)) rfl ?_
      refine OS.write rfl (e_store 3 (n := 1) (cs' := [lv]) rfl rfl rfl rfl rfl hone.1 hone.2 rfl) rfl ?_
      refine OS.write rfl (e_store 4 rfl rfl rfl rfl rfl rfl rfl rfl) rfl ?_
      refine OS.write rfl (e_store 5 rfl rfl rfl rfl rfl rfl rfl rfl) rfl ?_
      refine OS.nil ?_
      refine LS.ret ⟨_, res_cell3 3 4 5 rfl rfl rfl rfl rfl rfl rfl rfl rfl (part_one rfl rfl) (part_one rfl rfl) (part_one rfl rfl), ?_⟩
      have hsub : ∀ p, p ∈ Y → p ∈ Lx := hg.mem
      refine ⟨lv, cs, by rw [hl]; rfl, by rw [hl]; exact hg.sv.mono fun p hp => by simp [hp], by rw [hl]; exact hln.mono fun p hp => by simp [hsub p hp], fun p hp => by simp [hsub p (hm p hp)]⟩
end Go.Proofs.YtdffhllecojgcaaDoor
