/- Layer 6: a node without one of its keys. -/
import Derived.Test.YtdffhllecojgcaaNg
namespace Go.Am
theorem GV.appendR {e : TypeId} {sz n : Nat} {F L : RL} {v : Value} {cs : List Value} (X : RL) (g : GV e sz F v n cs L) : GV e sz (F ++ X) v n cs (L ++ X) := by
  rcases g with ⟨rfl, rfl, rfl, rfl⟩ | ⟨r, rfl, hl, rfl⟩
  · exact .inl ⟨rfl, rfl, rfl, rfl⟩
  · exact .inr ⟨r, rfl, hl, rfl⟩
end Go.Am
namespace Go.Proofs.Ytdffhllecojgcaa
open Go.Am
set_option linter.unusedVariables false
set_option maxRecDepth 20000

theorem er_skip {α : Type} {l : List α} {j : Nat} (h : j < l.length) : (l.take (j + 1)).eraseIdx j = (l.take j).eraseIdx j := by
  have hl : (l.take j).length = j := by simp; omega
  rw [List.take_succ_eq_append_getElem h, List.eraseIdx_append_of_length_le (by omega), List.eraseIdx_of_length_le (l := l.take j) (by omega), hl]
  simp
theorem er_take {α : Type} {l : List α} {i j : Nat} (h : j < l.length) (hne : j ≠ i) : (l.take (j + 1)).eraseIdx i = (l.take j).eraseIdx i ++ [l[j]] := by
  have hl : (l.take j).length = j := by simp; omega
  rw [List.take_succ_eq_append_getElem h]
  rcases Nat.lt_or_ge i j with h1 | h1
  · rw [List.eraseIdx_append_of_lt_length (by omega)]
  · rw [List.eraseIdx_append_of_length_le (by omega), List.eraseIdx_of_length_le (l := l.take j) (by omega), hl, List.eraseIdx_of_length_le (by simp; omega)]
def withoutN (n : Nd) (i : Nat) : Nd := ⟨n.leaf, n.ks.eraseIdx i, n.vs.eraseIdx i, n.kids.eraseIdx (i + 1)⟩
theorem Without_ct {L : RL} {n : Nd} {v1 v2 v3 : Value} {i : Nat} (h : NV L n v1 v2 v3) (hs : n.ks.length + n.vs.length + n.kids.length ≤ 5000) (hi : i ≤ 5000) :
    CS Try.prog 23 [ndV n.leaf v1 v2 v3, .int .i64 (i : Nat)] L fun u L' => ∃ Y w1 w2 w3, u = ndV n.leaf w1 w2 w3 ∧ L' = Y ++ L ∧ NV Y (withoutN n i) w1 w2 w3 := by
  obtain ⟨lf, ks, vs, kids⟩ := n
  obtain ⟨hk, hv, hz, b1, b2, b3, b4, b5⟩ := h
  simp only at hk hv hz hs b1 b2 b3 b4 b5
  refine CS.mk (fn := Try.f23) rfl rfl rfl rfl ?_
  repeat refine LS.seq ?_
  refine LS.region rfl ?_
  refine OS.fresh rfl (e_new (fun _ => rfl) rfl) (fun _ => rfl) (fun rn => ?_)
  refine OS.fresh rfl (e_new (fun _ => rfl) rfl) (fun _ => rfl) (fun r4 => ?_)
  refine OS.nil ?_
  repeat refine LS.seq ?_
  refine LS.region rfl ?_
  refine OS.pure rfl (fun _ => rfl) rfl ?_
  refine OS.read rfl (e_load 1 rfl rfl rfl rfl rfl) rfl ?_
  refine OS.pure rfl (fun _ => rfl) rfl ?_
  refine OS.fresh rfl (e_new (fun _ => rfl) rfl) (fun _ => rfl) (fun r5 => ?_)
  refine OS.write rfl (e_store 0 rfl rfl rfl rfl rfl rfl rfl rfl) rfl ?_
  refine OS.nil ?_
  repeat refine LS.seq ?_
  refine LS.region rfl ?_
  refine OS.pure rfl (fun _ => rfl) rfl ?_
  refine OS.nil ?_
  repeat refine LS.seq ?_
  refine LS.block ?_
  refine LS.loopJ [1, 2, 4, 5, 6] (fun q a L' => ∃ (j : Nat) (m : Value) (R : RL), q = ks.length - j ∧ j ≤ ks.length ∧ L' = (r5, nrRow lf m (.slice none 0 0) (.slice none 0 0)) :: (r4, nrRow false (.slice none 0 0) (.slice none 0 0) (.slice none 0 0)) :: (rn, nrRow lf v1 v2 v3) :: (R ++ L) ∧ GV 9 1 [] m ((ks.take j).eraseIdx i).length (tx ((ks.take j).eraseIdx i)) R ∧
    a = [.chan none, .int .i64 (i : Nat), .pointer (some ⟨rn, 0, none⟩), .chan none, .pointer (some ⟨r4, 0, none⟩), .pointer (some ⟨r5, 0, none⟩), .int .i64 (j : Nat), .chan none, .chan none, .chan none, .chan none, .chan none, .chan none, .chan none, .chan none, .chan none, .chan none, .chan none, .chan none, .chan none, .chan none, .chan none, .chan none, .chan none, .chan none, .chan none, .chan none, .chan none, .chan none, .chan none, .chan none, .chan none, .chan none, .chan none, .chan none, .chan none, .chan none, .chan none, .chan none, .chan none, .chan none, .chan none, .chan none, .chan none, .chan none, .chan none, .chan none, .chan none, .chan none, .chan none, .chan none, .chan none, .chan none, .chan none, .chan none, .chan none, .chan none, .chan none, .chan none, .chan none, .chan none, .chan none, .chan none, .chan none, .chan none, .chan none, .chan none, .chan none, .chan none, .chan none, .chan none, .chan none, .chan none, .chan none]) (n := ks.length) rfl ⟨0, .slice none 0 0, [], rfl, by omega, rfl, .inl ⟨rfl, by simp, by simp, rfl⟩, rfl⟩ ?_
  rintro q a L' ⟨j, m, R1, rfl, hj, rfl, hg, rfl⟩
  have hsub : ∀ p, p ∈ L → p ∈ ((r5, nrRow lf m (.slice none 0 0) (.slice none 0 0)) :: (r4, nrRow false (.slice none 0 0) (.slice none 0 0) (.slice none 0 0)) :: (rn, nrRow lf v1 v2 v3) :: (R1 ++ L) : RL) := fun p hp => by simp [hp]
  have hsv := hk.mono hsub
  repeat refine LS.seq ?_
  refine LS.region rfl ?_
  refine OS.pure rfl (fun _ => rfl) rfl ?_
  refine OS.pure rfl (fun _ => rfl) rfl ?_
  refine OS.read rfl (e_load 2 rfl rfl rfl rfl rfl) rfl ?_
  refine OS.pure rfl (e_len hsv rfl rfl rfl rfl rfl) rfl ?_
  refine OS.pure rfl (fun _ => rfl) rfl ?_
  refine OS.nil ?_
  repeat refine LS.seq ?_
  refine LS.cond rfl (fun hc => ?_) (fun hc => ?_)
  · have hc : (j : Int) < ks.length := lt_of hc
    have hjk : j < ks.length := by omega
    refine LS.skip ?_
    repeat refine LS.seq ?_
    refine LS.block ?_
    by_cases hji : j = i
    · have hb : (!ieqB (j : Int) ((i : Nat) : Int)) = false := by rw [ieqN, decide_eq_true hji]; rfl
      repeat refine LS.seq ?_
      refine LS.region rfl ?_
      refine OS.pure rfl (fun _ => rfl) rfl ?_
      refine OS.pure rfl (fun _ => rfl) rfl ?_
      refine OS.pure rfl (e_is (fun _ => rfl) (congrArg Value.bool hb)) rfl ?_
      refine OS.nil ?_
      repeat refine LS.seq ?_
      refine LS.cond rfl (fun hc2 => ?_) (fun hc2 => ?_)
      · cases hc2
      refine LS.skip ?_
      repeat refine LS.seq ?_
      refine LS.region rfl ?_
      refine OS.pure rfl (fun _ => rfl) rfl ?_
      refine OS.pure rfl (e_add (m := j) (n := 1) rfl rfl rfl (in_i64 (by omega) (by omega))) rfl ?_
      refine OS.pure rfl (fun _ => rfl) rfl ?_
      refine OS.nil ?_
      refine ⟨ks.length - (j + 1), by omega, j + 1, m, R1, rfl, by omega, rfl, ?_, rfl⟩
      rw [← hji] at hg ⊢
      rw [er_skip hjk]
      exact hg
    · have hb : (!ieqB (j : Int) ((i : Nat) : Int)) = true := by rw [ieqN, decide_eq_false hji]; rfl
      have hcl : ((ks.take j).eraseIdx i).length ≤ 5000 := by
        have h1 := List.length_eraseIdx_le (ks.take j) (i)
        have h2 : (ks.take j).length ≤ ks.length := by simp; omega
        omega
      repeat refine LS.seq ?_
      refine LS.region rfl ?_
      refine OS.pure rfl (fun _ => rfl) rfl ?_
      refine OS.pure rfl (fun _ => rfl) rfl ?_
      refine OS.pure rfl (e_is (fun _ => rfl) (congrArg Value.bool hb)) rfl ?_
      refine OS.nil ?_
      repeat refine LS.seq ?_
      refine LS.cond rfl (fun hc2 => ?_) (fun hc2 => by cases hc2)
      repeat refine LS.seq ?_
      refine LS.drawn noGo mixed [(0, false), (1, false), (2, false), (3, false), (4, false), (5, false), (6, false), (7, true), (8, true), (9, false), (10, true)] rfl rfl (by kernel_rfl) ?_
      refine ODS.pure rfl rfl (fun _ => rfl) rfl ?_
      refine ODS.read rfl rfl (e_load 0 rfl rfl rfl rfl rfl) rfl ?_
      refine ODS.pure rfl rfl (fun _ => rfl) rfl ?_
      refine ODS.read rfl rfl (e_load 2 rfl rfl rfl rfl rfl) rfl ?_
      refine ODS.pure rfl rfl (fun _ => rfl) rfl ?_
      refine ODS.at1 (j := j) hsv (tx_at hjk) rfl rfl rfl rfl rfl rfl rfl (fun r0 o0 row0 cs0 m0 c0 g0 => ⟨_, rfl, ?_⟩)
      refine ODS.read rfl rfl (e_loadm m0 c0 rfl rfl (part_one rfl g0)) rfl ?_
      refine ODS.fresh rfl rfl (e_new (fun _ => rfl) rfl) (fun _ => rfl) (fun _ => Keep.gone rfl (Keep.gone rfl (Keep.cons rfl (e_load 1 rfl rfl rfl rfl rfl) Keep.nil))) (fun rq => ?_)
      refine ODS.fresh rfl rfl (e_appendGV [(rq, _), (r5, _), (r4, _), (rn, _)] (F := L) (e := 9) (cs := tx ((ks.take j).eraseIdx i)) (n := ((ks.take j).eraseIdx i).length) (m := 1) (sz := 1) (bts := 16) (GV.appendR L hg) (SV.row (sz := 1) (n := 1) (List.mem_cons_self ..) rfl) (by omega) rfl rfl rfl rfl (by omega) (by omega)) (fun _ => rfl) (fun _ => Keep.gone rfl (Keep.gone rfl (Keep.gone rfl Keep.nil))) (fun r2 => ?_)
      refine ODS.pure rfl rfl (fun _ => rfl) rfl ?_
      refine ODS.write rfl rfl (e_store 2 rfl rfl rfl rfl rfl rfl rfl rfl) rfl (Keep.gone rfl (Keep.gone rfl (Keep.gone rfl Keep.nil))) ?_
      refine ODS.nil ?_
      repeat refine LS.seq ?_
      refine LS.region rfl ?_
      refine OS.sub (Sub.pulls [4, 4, 4] rfl) ?_
      refine OS.sub (Sub.drop 4 rfl) ?_
      refine OS.pure rfl (fun _ => rfl) rfl ?_
      refine OS.pure rfl (e_add (m := j) (n := 1) rfl rfl rfl (in_i64 (by omega) (by omega))) rfl ?_
      refine OS.pure rfl (fun _ => rfl) rfl ?_
      refine OS.nil ?_
      refine ⟨ks.length - (j + 1), by omega, j + 1, _, [_], rfl, by omega, rfl, ?_, rfl⟩
      rw [er_take hjk hji, List.length_append, show tx (_ ++ [_]) = tx _ ++ [txt _] from List.map_append ..]
      exact .inr ⟨r2, rfl, by simp [tx], rfl⟩
  have hc : (ks.length : Int) ≤ (j : Int) := nlt_of hc
  have hje : j = ks.length := by omega
  subst hje
  rw [List.take_length] at hg
  clear hsv hsub
  have hg1 := hg
  clear hg
  rename Value => m1
  refine LS.exit ?_
  have hv1 := hv.mono (L' := R1 ++ L) (fun p hp => List.mem_append_right _ hp)
  repeat refine LS.seq ?_
  refine LS.region rfl ?_
  refine OS.pure rfl (fun _ => rfl) rfl ?_
  refine OS.nil ?_
  repeat refine LS.seq ?_
  refine LS.block ?_
  refine LS.loopJ [1, 2, 4, 5, 7] (fun q a L' => ∃ (j : Nat) (m : Value) (R : RL), q = vs.length - j ∧ j ≤ vs.length ∧ L' = (r5, nrRow lf m1 m (.slice none 0 0)) :: (r4, nrRow false (.slice none 0 0) (.slice none 0 0) (.slice none 0 0)) :: (rn, nrRow lf v1 v2 v3) :: (R ++ (R1 ++ L)) ∧ GV 9 1 [] m ((vs.take j).eraseIdx i).length (tx ((vs.take j).eraseIdx i)) R ∧
    a = [.chan none, .int .i64 (i : Nat), .pointer (some ⟨rn, 0, none⟩), .chan none, .pointer (some ⟨r4, 0, none⟩), .pointer (some ⟨r5, 0, none⟩), .chan none, .int .i64 (j : Nat), .chan none, .chan none, .chan none, .chan none, .chan none, .chan none, .chan none, .chan none, .chan none, .chan none, .chan none, .chan none, .chan none, .chan none, .chan none, .chan none, .chan none, .chan none, .chan none, .chan none, .chan none, .chan none, .chan none, .chan none, .chan none, .chan none, .chan none, .chan none, .chan none, .chan none, .chan none, .chan none, .chan none, .chan none, .chan none, .chan none, .chan none, .chan none, .chan none, .chan none, .chan none, .chan none, .chan none, .chan none, .chan none, .chan none, .chan none, .chan none, .chan none, .chan none, .chan none, .chan none, .chan none, .chan none, .chan none, .chan none, .chan none, .chan none, .chan none, .chan none, .chan none, .chan none, .chan none, .chan none, .chan none, .chan none]) (n := vs.length) rfl ⟨0, .slice none 0 0, [], rfl, by omega, rfl, .inl ⟨rfl, by simp, by simp, rfl⟩, rfl⟩ ?_
  rintro q a L' ⟨j, m, R2, rfl, hj, rfl, hg, rfl⟩
  have hsub : ∀ p, p ∈ (R1 ++ L) → p ∈ ((r5, nrRow lf m1 m (.slice none 0 0)) :: (r4, nrRow false (.slice none 0 0) (.slice none 0 0) (.slice none 0 0)) :: (rn, nrRow lf v1 v2 v3) :: (R2 ++ (R1 ++ L)) : RL) := fun p hp => by simp [hp]
  have hsv := hv1.mono hsub
  repeat refine LS.seq ?_
  refine LS.region rfl ?_
  refine OS.pure rfl (fun _ => rfl) rfl ?_
  refine OS.pure rfl (fun _ => rfl) rfl ?_
  refine OS.read rfl (e_load 2 rfl rfl rfl rfl rfl) rfl ?_
  refine OS.pure rfl (e_len hsv rfl rfl rfl rfl rfl) rfl ?_
  refine OS.pure rfl (fun _ => rfl) rfl ?_
  refine OS.nil ?_
  repeat refine LS.seq ?_
  refine LS.cond rfl (fun hc => ?_) (fun hc => ?_)
  · have hc : (j : Int) < vs.length := lt_of hc
    have hjk : j < vs.length := by omega
    refine LS.skip ?_
    repeat refine LS.seq ?_
    refine LS.block ?_
    by_cases hji : j = i
    · have hb : (!ieqB (j : Int) ((i : Nat) : Int)) = false := by rw [ieqN, decide_eq_true hji]; rfl
      repeat refine LS.seq ?_
      refine LS.region rfl ?_
      refine OS.pure rfl (fun _ => rfl) rfl ?_
      refine OS.pure rfl (fun _ => rfl) rfl ?_
      refine OS.pure rfl (e_is (fun _ => rfl) (congrArg Value.bool hb)) rfl ?_
      refine OS.nil ?_
      repeat refine LS.seq ?_
      refine LS.cond rfl (fun hc2 => ?_) (fun hc2 => ?_)
      · cases hc2
      refine LS.skip ?_
      repeat refine LS.seq ?_
      refine LS.region rfl ?_
      refine OS.pure rfl (fun _ => rfl) rfl ?_
      refine OS.pure rfl (e_add (m := j) (n := 1) rfl rfl rfl (in_i64 (by omega) (by omega))) rfl ?_
      refine OS.pure rfl (fun _ => rfl) rfl ?_
      refine OS.nil ?_
      refine ⟨vs.length - (j + 1), by omega, j + 1, m, R2, rfl, by omega, rfl, ?_, rfl⟩
      rw [← hji] at hg ⊢
      rw [er_skip hjk]
      exact hg
    · have hb : (!ieqB (j : Int) ((i : Nat) : Int)) = true := by rw [ieqN, decide_eq_false hji]; rfl
      have hcl : ((vs.take j).eraseIdx i).length ≤ 5000 := by
        have h1 := List.length_eraseIdx_le (vs.take j) (i)
        have h2 : (vs.take j).length ≤ vs.length := by simp; omega
        omega
      repeat refine LS.seq ?_
      refine LS.region rfl ?_
      refine OS.pure rfl (fun _ => rfl) rfl ?_
      refine OS.pure rfl (fun _ => rfl) rfl ?_
      refine OS.pure rfl (e_is (fun _ => rfl) (congrArg Value.bool hb)) rfl ?_
      refine OS.nil ?_
      repeat refine LS.seq ?_
      refine LS.cond rfl (fun hc2 => ?_) (fun hc2 => by cases hc2)
      repeat refine LS.seq ?_
      refine LS.drawn noGo mixed [(0, false), (1, false), (2, false), (3, false), (4, false), (5, false), (6, false), (7, true), (8, true), (9, false), (10, true)] rfl rfl (by kernel_rfl) ?_
      refine ODS.pure rfl rfl (fun _ => rfl) rfl ?_
      refine ODS.read rfl rfl (e_load 0 rfl rfl rfl rfl rfl) rfl ?_
      refine ODS.pure rfl rfl (fun _ => rfl) rfl ?_
      refine ODS.read rfl rfl (e_load 2 rfl rfl rfl rfl rfl) rfl ?_
      refine ODS.pure rfl rfl (fun _ => rfl) rfl ?_
      refine ODS.at1 (j := j) hsv (tx_at hjk) rfl rfl rfl rfl rfl rfl rfl (fun r0 o0 row0 cs0 m0 c0 g0 => ⟨_, rfl, ?_⟩)
      refine ODS.read rfl rfl (e_loadm m0 c0 rfl rfl (part_one rfl g0)) rfl ?_
      refine ODS.fresh rfl rfl (e_new (fun _ => rfl) rfl) (fun _ => rfl) (fun _ => Keep.gone rfl (Keep.gone rfl (Keep.cons rfl (e_load 1 rfl rfl rfl rfl rfl) Keep.nil))) (fun rq => ?_)
      refine ODS.fresh rfl rfl (e_appendGV [(rq, _), (r5, _), (r4, _), (rn, _)] (F := (R1 ++ L)) (e := 9) (cs := tx ((vs.take j).eraseIdx i)) (n := ((vs.take j).eraseIdx i).length) (m := 1) (sz := 1) (bts := 16) (GV.appendR (R1 ++ L) hg) (SV.row (sz := 1) (n := 1) (List.mem_cons_self ..) rfl) (by omega) rfl rfl rfl rfl (by omega) (by omega)) (fun _ => rfl) (fun _ => Keep.gone rfl (Keep.gone rfl (Keep.gone rfl Keep.nil))) (fun r2 => ?_)
      refine ODS.pure rfl rfl (fun _ => rfl) rfl ?_
      refine ODS.write rfl rfl (e_store 2 rfl rfl rfl rfl rfl rfl rfl rfl) rfl (Keep.gone rfl (Keep.gone rfl (Keep.gone rfl Keep.nil))) ?_
      refine ODS.nil ?_
      repeat refine LS.seq ?_
      refine LS.region rfl ?_
      refine OS.sub (Sub.pulls [4, 4, 4] rfl) ?_
      refine OS.sub (Sub.drop 4 rfl) ?_
      refine OS.pure rfl (fun _ => rfl) rfl ?_
      refine OS.pure rfl (e_add (m := j) (n := 1) rfl rfl rfl (in_i64 (by omega) (by omega))) rfl ?_
      refine OS.pure rfl (fun _ => rfl) rfl ?_
      refine OS.nil ?_
      refine ⟨vs.length - (j + 1), by omega, j + 1, _, [_], rfl, by omega, rfl, ?_, rfl⟩
      rw [er_take hjk hji, List.length_append, show tx (_ ++ [_]) = tx _ ++ [txt _] from List.map_append ..]
      exact .inr ⟨r2, rfl, by simp [tx], rfl⟩
  have hc : (vs.length : Int) ≤ (j : Int) := nlt_of hc
  have hje : j = vs.length := by omega
  subst hje
  rw [List.take_length] at hg
  clear hsv hsub
  have hg2 := hg
  clear hg
  rename Value => m2
  refine LS.exit ?_
  have hz1 := hz.mono (L' := R2 ++ (R1 ++ L)) (fun p hp => List.mem_append_right _ (List.mem_append_right _ hp))
  repeat refine LS.seq ?_
  refine LS.region rfl ?_
  refine OS.pure rfl (fun _ => rfl) rfl ?_
  refine OS.nil ?_
  repeat refine LS.seq ?_
  refine LS.block ?_
  refine LS.loopJ [1, 2, 4, 5, 8] (fun q a L' => ∃ (j : Nat) (m : Value) (R : RL), q = kids.length - j ∧ j ≤ kids.length ∧ L' = (r5, nrRow lf m1 m2 m) :: (r4, nrRow false (.slice none 0 0) (.slice none 0 0) (.slice none 0 0)) :: (rn, nrRow lf v1 v2 v3) :: (R ++ (R2 ++ (R1 ++ L))) ∧ GV 3 1 [] m ((kids.take j).eraseIdx (i + 1)).length (nums ((kids.take j).eraseIdx (i + 1))) R ∧
    a = [.chan none, .int .i64 (i : Nat), .pointer (some ⟨rn, 0, none⟩), .chan none, .pointer (some ⟨r4, 0, none⟩), .pointer (some ⟨r5, 0, none⟩), .chan none, .chan none, .int .i64 (j : Nat), .chan none, .chan none, .chan none, .chan none, .chan none, .chan none, .chan none, .chan none, .chan none, .chan none, .chan none, .chan none, .chan none, .chan none, .chan none, .chan none, .chan none, .chan none, .chan none, .chan none, .chan none, .chan none, .chan none, .chan none, .chan none, .chan none, .chan none, .chan none, .chan none, .chan none, .chan none, .chan none, .chan none, .chan none, .chan none, .chan none, .chan none, .chan none, .chan none, .chan none, .chan none, .chan none, .chan none, .chan none, .chan none, .chan none, .chan none, .chan none, .chan none, .chan none, .chan none, .chan none, .chan none, .chan none, .chan none, .chan none, .chan none, .chan none, .chan none, .chan none, .chan none, .chan none, .chan none, .chan none, .chan none]) (n := kids.length) rfl ⟨0, .slice none 0 0, [], rfl, by omega, rfl, .inl ⟨rfl, by simp, by simp, rfl⟩, rfl⟩ ?_
  rintro q a L' ⟨j, m, R3, rfl, hj, rfl, hg, rfl⟩
  have hsub : ∀ p, p ∈ (R2 ++ (R1 ++ L)) → p ∈ ((r5, nrRow lf m1 m2 m) :: (r4, nrRow false (.slice none 0 0) (.slice none 0 0) (.slice none 0 0)) :: (rn, nrRow lf v1 v2 v3) :: (R3 ++ (R2 ++ (R1 ++ L))) : RL) := fun p hp => by simp [hp]
  have hsv := hz1.mono hsub
  repeat refine LS.seq ?_
  refine LS.region rfl ?_
  refine OS.pure rfl (fun _ => rfl) rfl ?_
  refine OS.pure rfl (fun _ => rfl) rfl ?_
  refine OS.read rfl (e_load 2 rfl rfl rfl rfl rfl) rfl ?_
  refine OS.pure rfl (e_len hsv rfl rfl rfl rfl rfl) rfl ?_
  refine OS.pure rfl (fun _ => rfl) rfl ?_
  refine OS.nil ?_
  repeat refine LS.seq ?_
  refine LS.cond rfl (fun hc => ?_) (fun hc => ?_)
  · have hc : (j : Int) < kids.length := lt_of hc
    have hjk : j < kids.length := by omega
    refine LS.skip ?_
    repeat refine LS.seq ?_
    refine LS.block ?_
    by_cases hji : j = (i + 1)
    · have hb : (!ieqB (j : Int) (((i + 1) : Nat) : Int)) = false := by rw [ieqN, decide_eq_true hji]; rfl
      repeat refine LS.seq ?_
      refine LS.region rfl ?_
      refine OS.pure rfl (fun _ => rfl) rfl ?_
      refine OS.pure rfl (fun _ => rfl) rfl ?_
      refine OS.pure rfl (e_add (m := i) (n := 1) rfl rfl rfl (in_i64 (by omega) (by omega))) rfl ?_
      refine OS.pure rfl (e_is (fun _ => rfl) (congrArg Value.bool hb)) rfl ?_
      refine OS.nil ?_
      repeat refine LS.seq ?_
      refine LS.cond rfl (fun hc2 => ?_) (fun hc2 => ?_)
      · cases hc2
      refine LS.skip ?_
      repeat refine LS.seq ?_
      refine LS.region rfl ?_
      refine OS.pure rfl (fun _ => rfl) rfl ?_
      refine OS.pure rfl (e_add (m := j) (n := 1) rfl rfl rfl (in_i64 (by omega) (by omega))) rfl ?_
      refine OS.pure rfl (fun _ => rfl) rfl ?_
      refine OS.nil ?_
      refine ⟨kids.length - (j + 1), by omega, j + 1, m, R3, rfl, by omega, rfl, ?_, rfl⟩
      rw [← hji] at hg ⊢
      rw [er_skip hjk]
      exact hg
    · have hb : (!ieqB (j : Int) (((i + 1) : Nat) : Int)) = true := by rw [ieqN, decide_eq_false hji]; rfl
      have hcl : ((kids.take j).eraseIdx (i + 1)).length ≤ 5000 := by
        have h1 := List.length_eraseIdx_le (kids.take j) ((i + 1))
        have h2 : (kids.take j).length ≤ kids.length := by simp; omega
        omega
      repeat refine LS.seq ?_
      refine LS.region rfl ?_
      refine OS.pure rfl (fun _ => rfl) rfl ?_
      refine OS.pure rfl (fun _ => rfl) rfl ?_
      refine OS.pure rfl (e_add (m := i) (n := 1) rfl rfl rfl (in_i64 (by omega) (by omega))) rfl ?_
      refine OS.pure rfl (e_is (fun _ => rfl) (congrArg Value.bool hb)) rfl ?_
      refine OS.nil ?_
      repeat refine LS.seq ?_
      refine LS.cond rfl (fun hc2 => ?_) (fun hc2 => by cases hc2)
      repeat refine LS.seq ?_
      refine LS.drawn noGo mixed [(0, false), (1, false), (2, false), (3, false), (4, false), (5, false), (6, false), (7, true), (8, true), (9, false), (10, true)] rfl rfl (by kernel_rfl) ?_
      refine ODS.pure rfl rfl (fun _ => rfl) rfl ?_
      refine ODS.read rfl rfl (e_load 0 rfl rfl rfl rfl rfl) rfl ?_
      refine ODS.pure rfl rfl (fun _ => rfl) rfl ?_
      refine ODS.read rfl rfl (e_load 2 rfl rfl rfl rfl rfl) rfl ?_
      refine ODS.pure rfl rfl (fun _ => rfl) rfl ?_
      refine ODS.at1 (j := j) hsv (nums_at hjk) rfl rfl rfl rfl rfl rfl rfl (fun r0 o0 row0 cs0 m0 c0 g0 => ⟨_, rfl, ?_⟩)
      refine ODS.read rfl rfl (e_loadm m0 c0 rfl rfl (part_one rfl g0)) rfl ?_
      refine ODS.fresh rfl rfl (e_new (fun _ => rfl) rfl) (fun _ => rfl) (fun _ => Keep.gone rfl (Keep.gone rfl (Keep.cons rfl (e_load 1 rfl rfl rfl rfl rfl) Keep.nil))) (fun rq => ?_)
      refine ODS.fresh rfl rfl (e_appendGV [(rq, _), (r5, _), (r4, _), (rn, _)] (F := (R2 ++ (R1 ++ L))) (e := 3) (cs := nums ((kids.take j).eraseIdx (i + 1))) (n := ((kids.take j).eraseIdx (i + 1)).length) (m := 1) (sz := 1) (bts := 8) (GV.appendR (R2 ++ (R1 ++ L)) hg) (SV.row (sz := 1) (n := 1) (List.mem_cons_self ..) rfl) (by omega) rfl rfl rfl rfl (by omega) (by omega)) (fun _ => rfl) (fun _ => Keep.gone rfl (Keep.gone rfl (Keep.gone rfl Keep.nil))) (fun r2 => ?_)
      refine ODS.pure rfl rfl (fun _ => rfl) rfl ?_
      refine ODS.write rfl rfl (e_store 2 rfl rfl rfl rfl rfl rfl rfl rfl) rfl (Keep.gone rfl (Keep.gone rfl (Keep.gone rfl Keep.nil))) ?_
      refine ODS.nil ?_
      repeat refine LS.seq ?_
      refine LS.region rfl ?_
      refine OS.sub (Sub.pulls [4, 4, 4] rfl) ?_
      refine OS.sub (Sub.drop 4 rfl) ?_
      refine OS.pure rfl (fun _ => rfl) rfl ?_
      refine OS.pure rfl (e_add (m := j) (n := 1) rfl rfl rfl (in_i64 (by omega) (by omega))) rfl ?_
      refine OS.pure rfl (fun _ => rfl) rfl ?_
      refine OS.nil ?_
      refine ⟨kids.length - (j + 1), by omega, j + 1, _, [_], rfl, by omega, rfl, ?_, rfl⟩
      rw [er_take hjk hji, List.length_append, show nums (_ ++ [_]) = nums _ ++ [.int .i64 _] from List.map_append ..]
      exact .inr ⟨r2, rfl, by simp [nums], rfl⟩
  have hc : (kids.length : Int) ≤ (j : Int) := nlt_of hc
  have hje : j = kids.length := by omega
  subst hje
  rw [List.take_length] at hg
  clear hsv hsub
  have hg3 := hg
  clear hg
  rename Value => m3
  refine LS.exit ?_
  have fin : ∀ row' : ARow, NV ([(r5, nrRow lf m1 m2 m3), (r4, row'), (rn, nrRow lf v1 v2 v3)] ++ R3 ++ R2 ++ R1) ⟨lf, ks.eraseIdx i, vs.eraseIdx i, kids.eraseIdx (i + 1)⟩ m1 m2 m3 := fun row' =>
    ⟨hg1.sv.mono fun p hp => by simp [hp], hg2.sv.mono fun p hp => by simp [hp], hg3.sv.mono fun p hp => by simp [hp],
      Nat.le_trans (List.length_eraseIdx_le ..) b1, Nat.le_trans (List.length_eraseIdx_le ..) b2, Nat.le_trans (List.length_eraseIdx_le ..) b3,
      fun k hk => b4 k (List.mem_of_mem_eraseIdx hk), fun k hk => b5 k (List.mem_of_mem_eraseIdx hk)⟩
  rcases hg1 with ⟨rfl, _, _, rfl⟩ | ⟨q1, rfl, _, rfl⟩ <;> rcases hg2 with ⟨rfl, _, _, rfl⟩ | ⟨q2, rfl, _, rfl⟩ <;> rcases hg3 with ⟨rfl, _, _, rfl⟩ | ⟨q3, rfl, _, rfl⟩
  all_goals
    repeat refine LS.seq ?_
    refine LS.region rfl ?_
    refine OS.read rfl (e_load 0 rfl rfl rfl rfl rfl) rfl ?_
    refine OS.write rfl (e_store 1 rfl rfl rfl rfl rfl rfl rfl rfl) rfl ?_
    refine OS.nil ?_
    first
      | exact LS.ret ⟨_, res_cell 1 rfl rfl rfl rfl, [_, _, _], _, _, _, rfl, rfl, by simpa [withoutN] using fin _⟩
      | exact LS.ret ⟨_, res_cell 1 rfl rfl rfl rfl, [_, _, _, _], _, _, _, rfl, rfl, by simpa [withoutN] using fin _⟩
      | exact LS.ret ⟨_, res_cell 1 rfl rfl rfl rfl, [_, _, _, _, _], _, _, _, rfl, rfl, by simpa [withoutN] using fin _⟩
      | exact LS.ret ⟨_, res_cell 1 rfl rfl rfl rfl, [_, _, _, _, _, _], _, _, _, rfl, rfl, by simpa [withoutN] using fin _⟩
end Go.Proofs.Ytdffhllecojgcaa
