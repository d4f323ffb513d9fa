/- Layer 4: what is plain; what is wrong with a group. -/
import Derived.Test.YteiiekfccecoiaaBJb
import Derived.Test.YteiiekfccecoiaaMp
namespace Go.Proofs.Yteiiekfccecoiaa
open Go.Am
set_option linter.unusedVariables false
set_option maxRecDepth 20000

def plainP (n : Nat) (i : Int) : Prop := i = 0 ∨ (121 < i ∧ i < n)
instance {n : Nat} {i : Int} : Decidable (plainP n i) := by unfold plainP; infer_instance
theorem isPlain_ct {F : RL} {rd rb : Nat} {s : Dk} (i : Int) : CS Try.prog 68 [ptr rd, .int .i64 i] (dk rd rb s F) fun v L' => v = .bool (decide (plainP s.n i)) ∧ L' = dk rd rb s F := by
  by_cases h0 : i = 0
  · subst h0
    refine CS.mk (fn := Try.f68) rfl rfl rfl rfl ?_
    repeat refine LS.seq ?_
    refine LS.region rfl ?_
    refine OS.pure rfl (fun _ => rfl) rfl ?_
    refine OS.nil ?_
    repeat refine LS.seq ?_
    refine LS.region rfl ?_
    refine OS.pure rfl (fun _ => rfl) rfl ?_
    refine OS.pure rfl (fun _ => rfl) rfl ?_
    refine OS.pure rfl (fun _ => rfl) rfl ?_
    refine OS.skip rfl rfl ?_
    refine OS.skip rfl rfl ?_
    refine OS.skip rfl rfl ?_
    refine OS.skip rfl rfl ?_
    refine OS.skip rfl rfl ?_
    refine OS.skip rfl rfl ?_
    refine OS.skip rfl rfl ?_
    refine OS.skip rfl rfl ?_
    refine OS.pure rfl (fun _ => rfl) rfl ?_
    refine OS.pure rfl (fun _ => rfl) rfl ?_
    refine OS.nil ?_
    refine LS.ret ⟨_, fun _ _ => rfl, ?_⟩
    exact ⟨by simp [plainP, tupleB], rfl⟩
  have hq0 : ieqB i 0 = false := by rw [ieqB_eq]; simpa using h0
  by_cases h1 : 121 < i
  · have hq1 : (!ileB i 121) = true := by rw [ileB_eq]; simp; omega
    refine CS.mk (fn := Try.f68) rfl rfl rfl rfl ?_
    repeat refine LS.seq ?_
    refine LS.region rfl ?_
    refine OS.pure rfl (fun _ => rfl) rfl ?_
    refine OS.nil ?_
    repeat refine LS.seq ?_
    refine LS.region rfl ?_
    refine OS.pure rfl (fun _ => rfl) rfl ?_
    refine OS.pure rfl (e_is (fun _ => rfl) (congrArg Value.bool hq0)) rfl ?_
    refine OS.pure rfl (fun _ => rfl) rfl ?_
    refine OS.pure rfl (fun _ => rfl) rfl ?_
    refine OS.pure rfl (e_is (fun _ => rfl) (congrArg Value.bool hq1)) rfl ?_
    refine OS.pure rfl (fun _ => rfl) rfl ?_
    refine OS.pure rfl (fun _ => rfl) rfl ?_
    refine OS.pure rfl (fun _ => rfl) rfl ?_
    refine OS.call noGo rfl (fun _ => rfl) ((Len_ct).mono ?_)
    rintro v L' ⟨rfl, rfl⟩
    refine ⟨_, rfl, ?_⟩
    refine OS.pure rfl (fun _ => rfl) rfl ?_
    refine OS.pure rfl (fun _ => rfl) rfl ?_
    refine OS.pure rfl (fun _ => rfl) rfl ?_
    refine OS.pure rfl (fun _ => rfl) rfl ?_
    refine OS.nil ?_
    refine LS.ret ⟨_, fun _ _ => rfl, ?_⟩
    refine ⟨?_, rfl⟩
    rw [ileB_eq]
    by_cases h' : i < s.n <;> simp [plainP, h0, h1, h', tupleB] <;> omega
  · have hq1 : (!ileB i 121) = false := by rw [ileB_eq]; simp; omega
    refine CS.mk (fn := Try.f68) rfl rfl rfl rfl ?_
    repeat refine LS.seq ?_
    refine LS.region rfl ?_
    refine OS.pure rfl (fun _ => rfl) rfl ?_
    refine OS.nil ?_
    repeat refine LS.seq ?_
    refine LS.region rfl ?_
    refine OS.pure rfl (fun _ => rfl) rfl ?_
    refine OS.pure rfl (e_is (fun _ => rfl) (congrArg Value.bool hq0)) rfl ?_
    refine OS.pure rfl (fun _ => rfl) rfl ?_
    refine OS.pure rfl (fun _ => rfl) rfl ?_
    refine OS.pure rfl (e_is (fun _ => rfl) (congrArg Value.bool hq1)) rfl ?_
    refine OS.pure rfl (fun _ => rfl) rfl ?_
    refine OS.skip rfl rfl ?_
    refine OS.skip rfl rfl ?_
    refine OS.skip rfl rfl ?_
    refine OS.skip rfl rfl ?_
    refine OS.pure rfl (fun _ => rfl) rfl ?_
    refine OS.pure rfl (fun _ => rfl) rfl ?_
    refine OS.pure rfl (fun _ => rfl) rfl ?_
    refine OS.nil ?_
    refine LS.ret ⟨_, fun _ _ => rfl, ?_⟩
    exact ⟨by simp [plainP, h0, h1, tupleB], rfl⟩

/-- A group that may be written. -/
def Good (n : Nat) (ps : List (Int × List UInt8)) : Prop := (∀ p ∈ ps, plainP n p.1 ∧ p.2.length = 256) ∧ (ps.map (·.1)).Nodup
theorem Good.take {n i : Nat} {ps : List (Int × List UInt8)} (h : Good n ps) : Good n (ps.take i) := by
  refine ⟨fun p hp => h.1 p (List.mem_of_mem_take hp), ?_⟩
  exact h.2.sublist ((List.take_sublist i ps).map _)
theorem good_succ {n i : Nat} {ps : List (Int × List UInt8)} {p : Int × List UInt8} (hp : ps[i]? = some p) : Good n (ps.take (i + 1)) ↔ Good n (ps.take i) ∧ plainP n p.1 ∧ p.2.length = 256 ∧ p.1 ∉ (ps.take i).map (·.1) := by
  have e : ps.take (i + 1) = ps.take i ++ [p] := by rw [List.take_add_one, hp]; rfl
  rw [e]
  unfold Good
  rw [List.map_append, List.nodup_append]
  constructor
  · rintro ⟨h1, h2, _, h3⟩
    refine ⟨⟨fun q hq => h1 q (by simp [hq]), h2⟩, (h1 p (by simp)).1, (h1 p (by simp)).2, fun hm => h3 _ hm _ (by simp) rfl⟩
  · rintro ⟨⟨h1, h2⟩, h3, h4, h5⟩
    refine ⟨fun q hq => ?_, h2, by simp, fun a ha b hb => ?_⟩
    · rcases List.mem_append.1 hq with hq | hq
      · exact h1 q hq
      · rw [List.mem_singleton.1 hq]; exact ⟨h3, h4⟩
    · simp at hb; subst hb; rintro rfl; exact h5 ha

theorem fault_full {L : RL} {d l : Value} {n : Nat} {gs : List Gw} (hl : SV 2 L l n (gcells gs)) (hn : 120 < n) : CS Try.prog 57 [d, l] L fun v L' => v = .int .i64 3 ∧ L' = L := by
  have hb : (!ileB (n : Int) 120) = true := by rw [ileB_eq]; simp; omega
  refine CS.mk (fn := Try.f57) rfl rfl rfl rfl ?_
  repeat refine LS.seq ?_
  refine LS.region rfl ?_
  refine OS.pure rfl (fun _ => rfl) rfl ?_
  refine OS.nil ?_
  repeat refine LS.seq ?_
  refine LS.region rfl ?_
  refine OS.pure rfl (fun _ => rfl) rfl ?_
  refine OS.pure rfl (e_len hl rfl rfl rfl rfl rfl) rfl ?_
  refine OS.pure rfl (e_is (fun _ => rfl) (congrArg Value.bool hb)) rfl ?_
  refine OS.nil ?_
  refine LS.cond rfl (fun hc => ?_) (fun hc => by cases hc)
  repeat refine LS.seq ?_
  refine LS.region rfl ?_
  refine OS.pure rfl (fun _ => rfl) rfl ?_
  refine OS.nil ?_
  refine LS.ret ⟨_, fun _ _ => rfl, ?_⟩
  exact ⟨rfl, rfl⟩

set_option maxHeartbeats 1000000 in
theorem fault_ct {F : RL} {rd rb : Nat} {s : Dk} {l : Value} {n : Nat} {gs : List Gw} (hl : SV 2 F l n (gcells gs)) (hd : Reads F gs) (hn : n ≤ 120) :
    CS Try.prog 57 [ptr rd, l] (dk rd rb s F) fun v L' => (v = .int .i64 0 ∧ Good s.n (bd gs) ∨ v = .int .i64 1 ∧ ¬ Good s.n (bd gs)) ∧ L' = dk rd rb s F := by
  have hlen := gs_len hl
  have hbl : (bd gs).length = n := by rw [bd_len]; exact hlen
  have hb : (!ileB (n : Int) 120) = false := by rw [ileB_eq]; simp; omega
  refine CS.mk (fn := Try.f57) rfl rfl rfl rfl ?_
  repeat refine LS.seq ?_
  refine LS.region rfl ?_
  refine OS.pure rfl (fun _ => rfl) rfl ?_
  refine OS.nil ?_
  repeat refine LS.seq ?_
  refine LS.region rfl ?_
  refine OS.pure rfl (fun _ => rfl) rfl ?_
  refine OS.pure rfl (e_len hl rfl rfl rfl rfl rfl) rfl ?_
  refine OS.pure rfl (e_is (fun _ => rfl) (congrArg Value.bool hb)) rfl ?_
  refine OS.nil ?_
  refine LS.cond rfl (fun hc => by cases hc) (fun hc => ?_)
  refine LS.skip ?_
  repeat refine LS.seq ?_
  refine LS.region rfl ?_
  refine OS.pure rfl (fun _ => rfl) rfl ?_
  refine OS.pure rfl (e_len hl rfl rfl rfl rfl rfl) rfl ?_
  refine OS.fresh rfl (e_makeMap rfl rfl rfl) (fun _ => rfl) (fun rm => ?_)
  refine OS.pure rfl (fun _ => rfl) rfl ?_
  refine OS.nil ?_
  repeat refine LS.seq ?_
  refine LS.region rfl ?_
  refine OS.pure rfl (fun _ => rfl) rfl ?_
  refine OS.pure rfl (e_len hl rfl rfl rfl rfl rfl) rfl ?_
  refine OS.pure rfl (fun _ => rfl) rfl ?_
  refine OS.nil ?_
  repeat refine LS.seq ?_
  refine LS.block ?_
  refine LS.loopJ [0, 5, 14, 15, 16] (fun q a L' => ∃ i, q = n - i ∧ i ≤ n ∧ Good s.n ((bd gs).take i) ∧ L' = (rm, .map (ents (((bd gs).take i).map (·.1)) 0) i) :: dk rd rb s F ∧
    a = [ptr rd, .chan none, .chan none, .chan none, .chan none, .map (some rm), .chan none, .chan none, .chan none, .chan none, .chan none, .chan none, .chan none, .chan none, l, .int .i64 (n : Nat), .int .i64 (i : Nat), .chan none, .chan none, .chan none, .chan none, .chan none, .chan none, .chan none, .chan none, .chan none, .chan none, .chan none, .chan none, .chan none, .chan none, .chan none, .chan none, .chan none, .chan none, .chan none, .chan none, .chan none, .chan none, .chan none, .chan none, .chan none, .chan none, .chan none]) (n := n) rfl ⟨0, rfl, by omega, ⟨fun p hp => (by cases hp), .nil⟩, rfl, rfl⟩ ?_
  rintro q a L' ⟨i, rfl, hi, hgood, rfl, rfl⟩
  repeat refine LS.seq ?_
  refine LS.region rfl ?_
  refine OS.pure rfl (fun _ => rfl) rfl ?_
  refine OS.nil ?_
  repeat refine LS.seq ?_
  refine LS.cond rfl (fun hc => ?_) (fun hc => ?_)
  · have hc : (i : Int) < n := lt_of hc
    have hin : i < n := by omega
    have hg : gs[i]? = some gs[i] := List.getElem?_eq_getElem (by omega)
    have hmem : gs[i] ∈ gs := List.getElem_mem (by omega)
    generalize gs[i] = g at hg hmem
    obtain ⟨m, hgv⟩ := hd g hmem
    have hml : g.d.length = m := by have := hgv.len; rw [byteCells_len] at this; omega
    have hbg := bd_get hg
    have hsucc := good_succ (n := s.n) hbg
    have hback : ¬ Good s.n ((bd gs).take (i + 1)) → ¬ Good s.n (bd gs) := fun h h' => h h'.take
    have hbs : (((bd gs).take i).map (·.1)).length = i := by simp; omega
    have hadd := ents_add (((bd gs).take i).map (·.1)) g.b
    rw [hbs] at hadd
    have htk : (((bd gs).take i).map (·.1)) ++ [g.b] = ((bd gs).take (i + 1)).map (·.1) := by rw [List.take_add_one, hbg]; simp
    rw [htk] at hadd
    have hel : (ents (((bd gs).take i).map (·.1)) 0).length = i := by simp only [ents, List.length_map, List.length_zipIdx]; simpa using hbs
    have hfe := find_ents g.b (bs := ((bd gs).take i).map (·.1)) (k := 0) (i := 0)
    refine LS.skip ?_
    repeat refine LS.seq ?_
    refine LS.block ?_
    repeat refine LS.seq ?_
    refine LS.region rfl ?_
    refine OS.at (j := i) hl.cons.cons.cons hin rfl rfl rfl rfl rfl rfl (fun r0 o0 row0 cs0 m0 c0 g0 k0 => ?_)
    refine ⟨_, rfl, ?_⟩
    refine OS.read rfl (e_loadm m0 c0 rfl rfl (part_agg rfl rfl (k0 _ (pc_cut (gp_get hg))))) rfl ?_
    refine OS.fresh rfl (e_new (fun _ => rfl) rfl) (fun _ => rfl) (fun rw => ?_)
    refine OS.write rfl (e_store 0 rfl rfl rfl rfl rfl (pair_ok hgv) rfl rfl) rfl ?_
    refine OS.nil ?_
    rcases hfe with ⟨hin2, j, hfj⟩ | ⟨hnew, hf0⟩
    · have hf2 := find_set (v := .int .i64 2) (same_key g.b) hfj
      have hj0 : 0 + j = j := by omega
      rw [hj0] at hf2 hfj
      repeat refine LS.seq ?_
      refine LS.region rfl ?_
      refine OS.pure rfl (fun _ => rfl) rfl ?_
      refine OS.pure rfl (fun _ => rfl) rfl ?_
      refine OS.read rfl (e_load 0 rfl rfl rfl rfl rfl) rfl ?_
      refine OS.read rfl (e_lookup 1 (v := .int .i64 1) rfl rfl rfl rfl rfl rfl (by rw [hfj]; rfl)) rfl ?_
      refine OS.pure rfl (fun _ => rfl) rfl ?_
      refine OS.write rfl (e_mapUpdate 1 (es2 := setE (.int .i64 g.b) (.int .i64 2) (ents (((bd gs).take i).map (·.1)) 0) j) (clock2 := i) rfl rfl rfl rfl rfl rfl rfl (by rw [hfj]; rfl) rfl) rfl ?_
      refine OS.nil ?_
      repeat refine LS.seq ?_
      refine LS.region rfl ?_
      refine OS.pure rfl (fun _ => rfl) rfl ?_
      refine OS.pure rfl (fun _ => rfl) rfl ?_
      refine OS.read rfl (e_load 0 rfl rfl rfl rfl rfl) rfl ?_
      refine OS.read rfl (e_lookup 1 (v := .int .i64 2) rfl rfl rfl rfl rfl rfl (by rw [hf2]; rfl)) rfl ?_
      refine OS.pure rfl (fun _ => rfl) rfl ?_
      refine OS.pure rfl (fun _ => rfl) rfl ?_
      refine OS.skip rfl rfl ?_
      refine OS.skip rfl rfl ?_
      refine OS.skip rfl rfl ?_
      refine OS.skip rfl rfl ?_
      refine OS.skip rfl rfl ?_
      refine OS.pure rfl (fun _ => rfl) rfl ?_
      refine OS.pure rfl (fun _ => rfl) rfl ?_
      refine OS.skip rfl rfl ?_
      refine OS.skip rfl rfl ?_
      refine OS.skip rfl rfl ?_
      refine OS.skip rfl rfl ?_
      refine OS.pure rfl (fun _ => rfl) rfl ?_
      refine OS.nil ?_
      refine LS.cond rfl (fun hc => ?_) (fun hc => by cases hc)
      repeat refine LS.seq ?_
      refine LS.region rfl ?_
      refine OS.pure rfl (fun _ => rfl) rfl ?_
      refine OS.sub (Sub.drop 0 rfl) ?_
      refine OS.sub (Sub.drop 0 rfl) ?_
      refine OS.nil ?_
      refine LS.ret ⟨_, fun _ _ => rfl, ?_⟩
      exact ⟨.inr ⟨rfl, hback (fun h => (hsucc.1 h).2.2.2 hin2)⟩, rfl⟩
    · have hf1 := find_add (v := .int .i64 1) (c := i) (same_key g.b) hf0
      rw [hel, Nat.zero_add] at hf1
      repeat refine LS.seq ?_
      refine LS.region rfl ?_
      refine OS.pure rfl (fun _ => rfl) rfl ?_
      refine OS.pure rfl (fun _ => rfl) rfl ?_
      refine OS.read rfl (e_load 0 rfl rfl rfl rfl rfl) rfl ?_
      refine OS.read rfl (e_lookup 1 (v := .int .i64 0) rfl rfl rfl rfl rfl rfl (by rw [hf0]; rfl)) rfl ?_
      refine OS.pure rfl (fun _ => rfl) rfl ?_
      refine OS.write rfl (e_mapUpdate 1 (es2 := addE ⟨.int .i64 g.b, .int .i64 1, i⟩ (ents (((bd gs).take i).map (·.1)) 0)) (clock2 := i + 1) rfl rfl rfl rfl rfl rfl rfl (by rw [hf0]; rfl) rfl) rfl ?_
      refine OS.nil ?_
      by_cases hpl : plainP s.n g.b
      · by_cases hm : m = 256
        · have hq : (!ieqB ((m : Nat) : Int) 256) = false := by rw [ieqB_eq, hm]; rfl
          repeat refine LS.seq ?_
          refine LS.region rfl ?_
          refine OS.pure rfl (fun _ => rfl) rfl ?_
          refine OS.pure rfl (fun _ => rfl) rfl ?_
          refine OS.read rfl (e_load 0 rfl rfl rfl rfl rfl) rfl ?_
          refine OS.read rfl (e_lookup 1 (v := .int .i64 1) rfl rfl rfl rfl rfl rfl (by rw [hf1]; rfl)) rfl ?_
          refine OS.pure rfl (fun _ => rfl) rfl ?_
          refine OS.pure rfl (fun _ => rfl) rfl ?_
          refine OS.pure rfl (fun _ => rfl) rfl ?_
          refine OS.pure rfl (fun _ => rfl) rfl ?_
          refine OS.read rfl (e_load 0 rfl rfl rfl rfl rfl) rfl ?_
          refine OS.sub (Sub.pulls [3, 3] rfl) ?_
          refine OS.call noGo rfl (fun _ => rfl) ((isPlain_ct g.b).mono ?_)
          rintro v L' ⟨rfl, rfl⟩
          rw [decide_eq_true hpl]
          refine ⟨_, rfl, ?_⟩
          refine OS.pure rfl (fun _ => rfl) rfl ?_
          refine OS.pure rfl (fun _ => rfl) rfl ?_
          refine OS.pure rfl (fun _ => rfl) rfl ?_
          refine OS.pure rfl (fun _ => rfl) rfl ?_
          refine OS.read rfl (e_load 2 rfl rfl rfl rfl rfl) rfl ?_
          refine OS.pure rfl (e_len hgv rfl rfl rfl rfl rfl) rfl ?_
          refine OS.pure rfl (e_is (fun _ => rfl) (congrArg Value.bool hq)) rfl ?_
          refine OS.pure rfl (fun _ => rfl) rfl ?_
          refine OS.nil ?_
          refine LS.cond rfl (fun hc => by cases hc) (fun hc => ?_)
          refine LS.skip ?_
          rw [hadd]
          repeat refine LS.seq ?_
          refine LS.region rfl ?_
          refine OS.sub (Sub.drop 2 rfl) ?_
          refine OS.sub (Sub.pulls [2] rfl) ?_
          refine OS.pure rfl (e_add rfl rfl rfl (in_i64 (by omega) (by omega))) rfl ?_
          refine OS.pure rfl (fun _ => rfl) rfl ?_
          refine OS.nil ?_
          exact ⟨n - (i + 1), by omega, i + 1, rfl, by omega, hsucc.2 ⟨hgood, hpl, show g.d.length = 256 by omega, hnew⟩, rfl, rfl⟩
        · have hq : (!ieqB ((m : Nat) : Int) 256) = true := by rw [ieqB_eq]; simp; omega
          repeat refine LS.seq ?_
          refine LS.region rfl ?_
          refine OS.pure rfl (fun _ => rfl) rfl ?_
          refine OS.pure rfl (fun _ => rfl) rfl ?_
          refine OS.read rfl (e_load 0 rfl rfl rfl rfl rfl) rfl ?_
          refine OS.read rfl (e_lookup 1 (v := .int .i64 1) rfl rfl rfl rfl rfl rfl (by rw [hf1]; rfl)) rfl ?_
          refine OS.pure rfl (fun _ => rfl) rfl ?_
          refine OS.pure rfl (fun _ => rfl) rfl ?_
          refine OS.pure rfl (fun _ => rfl) rfl ?_
          refine OS.pure rfl (fun _ => rfl) rfl ?_
          refine OS.read rfl (e_load 0 rfl rfl rfl rfl rfl) rfl ?_
          refine OS.sub (Sub.pulls [3, 3] rfl) ?_
          refine OS.call noGo rfl (fun _ => rfl) ((isPlain_ct g.b).mono ?_)
          rintro v L' ⟨rfl, rfl⟩
          rw [decide_eq_true hpl]
          refine ⟨_, rfl, ?_⟩
          refine OS.pure rfl (fun _ => rfl) rfl ?_
          refine OS.pure rfl (fun _ => rfl) rfl ?_
          refine OS.pure rfl (fun _ => rfl) rfl ?_
          refine OS.pure rfl (fun _ => rfl) rfl ?_
          refine OS.read rfl (e_load 2 rfl rfl rfl rfl rfl) rfl ?_
          refine OS.pure rfl (e_len hgv rfl rfl rfl rfl rfl) rfl ?_
          refine OS.pure rfl (e_is (fun _ => rfl) (congrArg Value.bool hq)) rfl ?_
          refine OS.pure rfl (fun _ => rfl) rfl ?_
          refine OS.nil ?_
          refine LS.cond rfl (fun hc => ?_) (fun hc => by cases hc)
          repeat refine LS.seq ?_
          refine LS.region rfl ?_
          refine OS.pure rfl (fun _ => rfl) rfl ?_
          refine OS.sub (Sub.drop 2 rfl) ?_
          refine OS.sub (Sub.drop 2 rfl) ?_
          refine OS.nil ?_
          refine LS.ret ⟨_, fun _ _ => rfl, ?_⟩
          exact ⟨.inr ⟨rfl, hback (fun h => hm (by have : g.d.length = 256 := (hsucc.1 h).2.2.1; omega))⟩, rfl⟩
      · repeat refine LS.seq ?_
        refine LS.region rfl ?_
        refine OS.pure rfl (fun _ => rfl) rfl ?_
        refine OS.pure rfl (fun _ => rfl) rfl ?_
        refine OS.read rfl (e_load 0 rfl rfl rfl rfl rfl) rfl ?_
        refine OS.read rfl (e_lookup 1 (v := .int .i64 1) rfl rfl rfl rfl rfl rfl (by rw [hf1]; rfl)) rfl ?_
        refine OS.pure rfl (fun _ => rfl) rfl ?_
        refine OS.pure rfl (fun _ => rfl) rfl ?_
        refine OS.pure rfl (fun _ => rfl) rfl ?_
        refine OS.pure rfl (fun _ => rfl) rfl ?_
        refine OS.read rfl (e_load 0 rfl rfl rfl rfl rfl) rfl ?_
        refine OS.sub (Sub.pulls [3, 3] rfl) ?_
        refine OS.call noGo rfl (fun _ => rfl) ((isPlain_ct g.b).mono ?_)
        rintro v L' ⟨rfl, rfl⟩
        rw [decide_eq_false hpl]
        refine ⟨_, rfl, ?_⟩
        refine OS.pure rfl (fun _ => rfl) rfl ?_
        refine OS.pure rfl (fun _ => rfl) rfl ?_
        refine OS.pure rfl (fun _ => rfl) rfl ?_
        refine OS.skip rfl rfl ?_
        refine OS.skip rfl rfl ?_
        refine OS.skip rfl rfl ?_
        refine OS.skip rfl rfl ?_
        refine OS.pure rfl (fun _ => rfl) rfl ?_
        refine OS.nil ?_
        refine LS.cond rfl (fun hc => ?_) (fun hc => by cases hc)
        repeat refine LS.seq ?_
        refine LS.region rfl ?_
        refine OS.pure rfl (fun _ => rfl) rfl ?_
        refine OS.sub (Sub.drop 2 rfl) ?_
        refine OS.sub (Sub.drop 2 rfl) ?_
        refine OS.nil ?_
        refine LS.ret ⟨_, fun _ _ => rfl, ?_⟩
        exact ⟨.inr ⟨rfl, hback (fun h => hpl (hsucc.1 h).2.1)⟩, rfl⟩
  have hc : (n : Int) ≤ i := nlt_of hc
  have hin : i = n := by omega
  subst hin
  rw [← hbl, List.take_length] at hgood
  refine LS.exit ?_
  repeat refine LS.seq ?_
  refine LS.region rfl ?_
  refine OS.pure rfl (fun _ => rfl) rfl ?_
  refine OS.sub (Sub.drop 0 rfl) ?_
  refine OS.nil ?_
  refine LS.ret ⟨_, fun _ _ => rfl, ?_⟩
  exact ⟨.inl ⟨rfl, hgood⟩, rfl⟩
end Go.Proofs.Yteiiekfccecoiaa
