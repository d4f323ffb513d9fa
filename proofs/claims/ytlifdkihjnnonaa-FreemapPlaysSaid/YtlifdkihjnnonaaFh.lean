/- Layer 5: FreemapTakes. -/
import Derived.Test.YtlifdkihjnnonaaFg
namespace Go.Proofs.Ytlifdkihjnnonaa
open Go.Am
set_option linter.unusedVariables false
set_option maxRecDepth 20000

/-- A number, taken for one without a sign. -/
def uns (z : Int) : Nat := (z % 18446744073709551616).toNat
theorem uns_eq (z : Int) : wrapB .u64 z = (uns z : Nat) := by
  rw [wrapB_eq, Am.wrap_u64]; unfold uns; omega
theorem uns_lt (z : Int) : uns z < 18446744073709551616 := by unfold uns; omega
theorem e_uns {P : Program} {a : Slots} {o : Oper} {src dst : TypeId} {x : Operand} {n : Int} (ho : o.op = .convert src dst x) (hx : aev a x = some (.int .i64 n)) (hs : P.underlying src = some (.int .i64)) (hd : P.underlying dst = some (.int .u64)) : ∀ h, opB P a o h = some (.val (.int .u64 (uns n : Nat)) h) := by
  intro h
  simp only [opB, ho, hx, convB, hs, hd, uns_eq, ret2]
/-- The list's row is let go. -/
theorem gv_drop {e : TypeId} {sz n : Nat} {F L : RL} {v : Value} {cs : List Value} (g : GV e sz F v n cs L) : Sub F L := by
  rcases g with ⟨_, _, _, rfl⟩ | ⟨r, _, _, rfl⟩
  · exact ⟨[], by simp⟩
  · exact ⟨[_], List.perm_append_comm (l₁ := [_])⟩

theorem takes_ct {L : RL} {l : Value} {m : Nat} {zs : List Int} (n : Int) (hl : SV 1 L l m (zs.map fun z => .int .i64 z)) (hm : m ≤ 9223372036854775807) :
    CS Try.prog 7 [.int .i64 n, l] L fun v' _ => v' = .bool true := by
  have hlen : zs.length = m := by have := hl.len; simpa using this
  refine CS.mk (fn := Try.f7) rfl rfl rfl rfl ?_
  repeat refine LS.seq ?_
  refine LS.region rfl ?_
  refine OS.pure rfl (fun _ => rfl) rfl ?_
  refine OS.nil ?_
  by_cases hm5 : 500 < m
  · have hb : (!ileB (m : Int) 500) = true := by rw [ileB_eq]; simp; omega
    repeat refine LS.seq ?_
    refine LS.region rfl ?_
    refine OS.call noGo rfl (fun _ => rfl) ((works_ct).mono ?_)
    rintro v L' ⟨rfl, hLL⟩
    have hLL := hLL.symm
    subst hLL
    refine ⟨_, rfl, ?_⟩
    refine OS.pure rfl (fun _ => rfl) rfl ?_
    refine OS.pure rfl (fun _ => rfl) rfl ?_
    refine OS.pure rfl (fun _ => rfl) rfl ?_
    refine OS.pure rfl (e_len hl rfl rfl rfl rfl rfl) rfl ?_
    refine OS.pure rfl (e_is (fun _ => rfl) (congrArg Value.bool hb)) rfl ?_
    refine OS.pure rfl (fun _ => rfl) rfl ?_
    refine OS.nil ?_
    refine LS.cond rfl (fun hc => ?_) (fun hc => by cases hc)
    repeat refine LS.seq ?_
    refine LS.region rfl ?_
    refine OS.call noGo rfl (fun _ => rfl) ((works_ct).mono ?_)
    rintro v L' ⟨rfl, hLL⟩
    have hLL := hLL.symm
    subst hLL
    refine ⟨_, rfl, ?_⟩
    refine OS.pure rfl (fun _ => rfl) rfl ?_
    refine OS.nil ?_
    refine LS.ret ⟨_, fun _ _ => rfl, ?_⟩
    rfl
  have hb : (!ileB (m : Int) 500) = false := by rw [ileB_eq]; simp; omega
  repeat refine LS.seq ?_
  refine LS.region rfl ?_
  refine OS.call noGo rfl (fun _ => rfl) ((works_ct).mono ?_)
  rintro v L' ⟨rfl, hLL⟩
  have hLL := hLL.symm
  subst hLL
  refine ⟨_, rfl, ?_⟩
  refine OS.pure rfl (fun _ => rfl) rfl ?_
  refine OS.pure rfl (fun _ => rfl) rfl ?_
  refine OS.pure rfl (fun _ => rfl) rfl ?_
  refine OS.pure rfl (e_len hl rfl rfl rfl rfl rfl) rfl ?_
  refine OS.pure rfl (e_is (fun _ => rfl) (congrArg Value.bool hb)) rfl ?_
  refine OS.pure rfl (fun _ => rfl) rfl ?_
  refine OS.nil ?_
  refine LS.cond rfl (fun hc => by cases hc) (fun hc => ?_)
  refine LS.skip ?_
  have hun := uns_lt n
  repeat refine LS.seq ?_
  refine LS.region rfl ?_
  refine OS.pure rfl (fun _ => rfl) rfl ?_
  refine OS.pure rfl (e_uns rfl rfl rfl rfl) rfl ?_
  refine OS.pure rfl (e_rem (n := 2001) rfl rfl rfl (by decide)) rfl ?_
  obtain ⟨N, hN⟩ : ∃ N, uns n % 2001 = N := ⟨_, rfl⟩
  rw [hN]
  have hN2 : N ≤ 2000 := by omega
  refine OS.pure rfl (e_conv rfl rfl rfl rfl (in_i64 (by omega) (by omega))) rfl ?_
  refine OS.pure rfl (fun _ => rfl) rfl ?_
  refine OS.nil ?_
  repeat refine LS.seq ?_
  refine LS.region rfl ?_
  refine OS.pure rfl (fun _ => rfl) rfl ?_
  refine OS.call noGo rfl (fun _ => rfl) ((New_ct N (by omega)).mono ?_)
  rintro v L' ⟨rm, rb, rfl, rfl⟩
  refine ⟨_, rfl, ?_⟩
  refine OS.pure rfl (fun _ => rfl) rfl ?_
  refine OS.pure rfl (fun _ => rfl) rfl ?_
  refine OS.pure rfl (fun _ => rfl) rfl ?_
  refine OS.pure rfl (fun _ => rfl) rfl ?_
  refine OS.pure rfl (fun _ => rfl) rfl ?_
  refine OS.nil ?_
  repeat refine LS.seq ?_
  refine LS.region rfl ?_
  refine OS.pure rfl (fun _ => rfl) rfl ?_
  refine OS.pure rfl (fun _ => rfl) rfl ?_
  refine OS.nil ?_
  refine LS.cond rfl (fun hc => by cases hc) (fun hc => ?_)
  refine LS.skip ?_
  repeat refine LS.seq ?_
  refine LS.region rfl ?_
  refine OS.pure rfl (fun _ => rfl) rfl ?_
  refine OS.nil ?_
  repeat refine LS.seq ?_
  refine LS.mid [0, 5] (fun a L' => ∃ T : List Bool, T.length = N ∧ L' = fm rm rb T L ∧ a = [.int .i64 (N : Nat), .chan none, .chan none, .chan none, .chan none, ptr rm, .chan none, .chan none, .chan none, .chan none, .chan none, .chan none, .chan none, .chan none, .chan none, .chan none, .chan none, .chan none, .chan none, .chan none, .chan none, .chan none, .chan none, .chan none, .chan none, .chan none, .chan none, .chan none, .chan none, .chan none, .chan none, .chan none, .chan none, .chan none, .chan none, .chan none, .chan none, .chan none, .chan none, .chan none, .chan none, .chan none, .chan none, .chan none, .chan none, .chan none, .chan none, .chan none, .chan none, .chan none, .chan none, .chan none, .chan none, .chan none, .chan none, .chan none, .chan none, .chan none, .chan none, .chan none, .chan none, .chan none, .chan none, .chan none, .chan none, .chan none, .chan none, .chan none, .chan none, .chan none, .chan none, .chan none, .chan none, .chan none, .chan none, .chan none, .chan none, .chan none, .chan none, .chan none, .chan none, .chan none, .chan none, .chan none, .chan none, .chan none, .chan none, .chan none, .chan none, .chan none, .chan none, .chan none, .chan none, .chan none, .chan none, .chan none, .chan none, .chan none, .chan none, .chan none, .chan none]) ?_ ?_
  · repeat refine LS.seq ?_
    refine LS.block ?_
    refine LS.loopJ [0, 1, 5, 7] (fun q a L' => ∃ (i : Nat) (T : List Bool), q = m - i ∧ i ≤ m ∧ T.length = N ∧ L' = fm rm rb T L ∧ a = [.int .i64 (N : Nat), l, .chan none, .chan none, .chan none, ptr rm, .chan none, .int .i64 (i : Nat), .chan none, .chan none, .chan none, .chan none, .chan none, .chan none, .chan none, .chan none, .chan none, .chan none, .chan none, .chan none, .chan none, .chan none, .chan none, .chan none, .chan none, .chan none, .chan none, .chan none, .chan none, .chan none, .chan none, .chan none, .chan none, .chan none, .chan none, .chan none, .chan none, .chan none, .chan none, .chan none, .chan none, .chan none, .chan none, .chan none, .chan none, .chan none, .chan none, .chan none, .chan none, .chan none, .chan none, .chan none, .chan none, .chan none, .chan none, .chan none, .chan none, .chan none, .chan none, .chan none, .chan none, .chan none, .chan none, .chan none, .chan none, .chan none, .chan none, .chan none, .chan none, .chan none, .chan none, .chan none, .chan none, .chan none, .chan none, .chan none, .chan none, .chan none, .chan none, .chan none, .chan none, .chan none, .chan none, .chan none, .chan none, .chan none, .chan none, .chan none, .chan none, .chan none, .chan none, .chan none, .chan none, .chan none, .chan none, .chan none, .chan none, .chan none, .chan none, .chan none, .chan none]) (n := m) rfl
      ⟨0, _, rfl, by omega, List.length_replicate, rfl, rfl⟩ ?_
    rintro q a L' ⟨i, T, rfl, hi, hT, rfl, rfl⟩
    have hlM : SV 1 (fm rm rb T L) l m (zs.map fun z => .int .i64 z) := hl.cons.cons
    repeat refine LS.seq ?_
    refine LS.region rfl ?_
    refine OS.pure rfl (fun _ => rfl) rfl ?_
    refine OS.pure rfl (fun _ => rfl) rfl ?_
    refine OS.pure rfl (e_len hl rfl rfl rfl rfl rfl) rfl ?_
    refine OS.pure rfl (fun _ => rfl) rfl ?_
    refine OS.nil ?_
    repeat refine LS.seq ?_
    refine LS.cond rfl (fun hc => ?_) (fun hc => ?_)
    · have hc := lt_of hc
      have him : i < m := by omega
      refine LS.skip ?_
      repeat refine LS.seq ?_
      refine LS.mid [0, 1, 5, 7] (fun a L' => ∃ (T : List Bool), T.length = N ∧ L' = fm rm rb T L ∧ a = [.int .i64 (N : Nat), l, .chan none, .chan none, .chan none, ptr rm, .chan none, .int .i64 (i : Nat), .chan none, .chan none, .chan none, .chan none, .chan none, .chan none, .chan none, .chan none, .chan none, .chan none, .chan none, .chan none, .chan none, .chan none, .chan none, .chan none, .chan none, .chan none, .chan none, .chan none, .chan none, .chan none, .chan none, .chan none, .chan none, .chan none, .chan none, .chan none, .chan none, .chan none, .chan none, .chan none, .chan none, .chan none, .chan none, .chan none, .chan none, .chan none, .chan none, .chan none, .chan none, .chan none, .chan none, .chan none, .chan none, .chan none, .chan none, .chan none, .chan none, .chan none, .chan none, .chan none, .chan none, .chan none, .chan none, .chan none, .chan none, .chan none, .chan none, .chan none, .chan none, .chan none, .chan none, .chan none, .chan none, .chan none, .chan none, .chan none, .chan none, .chan none, .chan none, .chan none, .chan none, .chan none, .chan none, .chan none, .chan none, .chan none, .chan none, .chan none, .chan none, .chan none, .chan none, .chan none, .chan none, .chan none, .chan none, .chan none, .chan none, .chan none, .chan none, .chan none, .chan none]) ?_ ?_
      · repeat refine LS.seq ?_
        refine LS.block ?_
        by_cases h0 : 0 < N
        · have hb1 : (!ileB (N : Int) 0) = true := by rw [ileB_eq]; simp; omega
          repeat refine LS.seq ?_
          refine LS.region rfl ?_
          refine OS.pure rfl (fun _ => rfl) rfl ?_
          refine OS.pure rfl (e_is (fun _ => rfl) (congrArg Value.bool hb1)) rfl ?_
          refine OS.nil ?_
          refine LS.cond rfl (fun hc => ?_) (fun hc => by cases hc)
          repeat refine LS.seq ?_
          refine LS.region rfl ?_
          refine OS.pure rfl (fun _ => rfl) rfl ?_
          refine OS.pure rfl (fun _ => rfl) rfl ?_
          refine OS.pure rfl (fun _ => rfl) rfl ?_
          refine OS.at1 (j := i) hlM (u := .int .i64 (zs[i]'(by omega))) (by simp [show i < zs.length by omega]) rfl rfl rfl rfl rfl rfl (fun r0 o0 row0 cs0 m0 c0 g0 => ?_)
          refine ⟨_, rfl, ?_⟩
          refine OS.read rfl (e_loadm m0 c0 rfl rfl (part_one rfl g0)) rfl ?_
          refine OS.pure rfl (e_uns rfl rfl rfl rfl) rfl ?_
          refine OS.pure rfl (fun _ => rfl) rfl ?_
          refine OS.pure rfl (e_conv (n := (N : Nat)) rfl rfl rfl rfl (in_u64 (by omega) (by omega))) rfl ?_
          refine OS.pure rfl (e_rem (n := N) rfl rfl rfl (by omega)) rfl ?_
          have hlt : uns zs[i] % N < N := Nat.mod_lt _ h0
          refine OS.pure rfl (e_conv rfl rfl rfl rfl (in_i64 (by omega) (by omega))) rfl ?_
          refine OS.call noGo rfl (fun _ => rfl) ((Claim_ct (T := T) (by omega) _).mono ?_)
          rintro v L' ⟨rfl, rfl⟩
          refine ⟨_, rfl, ?_⟩
          refine OS.nil ?_
          exact ⟨_, by rw [claimS_len]; exact hT, rfl, rfl⟩
        · have hb1 : (!ileB (N : Int) 0) = false := by rw [ileB_eq]; simp; omega
          repeat refine LS.seq ?_
          refine LS.region rfl ?_
          refine OS.pure rfl (fun _ => rfl) rfl ?_
          refine OS.pure rfl (e_is (fun _ => rfl) (congrArg Value.bool hb1)) rfl ?_
          refine OS.nil ?_
          refine LS.cond rfl (fun hc => by cases hc) (fun hc => ?_)
          refine LS.skip ?_
          exact ⟨T, hT, rfl, rfl⟩
      rintro a L' ⟨T2, hT2, rfl, rfl⟩
      repeat refine LS.seq ?_
      refine LS.region rfl ?_
      refine OS.pure rfl (fun _ => rfl) rfl ?_
      refine OS.pure rfl (e_add rfl rfl rfl (in_i64 (by omega) (by omega))) rfl ?_
      refine OS.pure rfl (fun _ => rfl) rfl ?_
      refine OS.nil ?_
      exact ⟨m - (i + 1), by omega, i + 1, T2, rfl, by omega, hT2, rfl, rfl⟩
    · refine LS.exit ?_
      exact ⟨T, hT, rfl, rfl⟩
  rintro a L' ⟨T, hT, rfl, rfl⟩
  have hT3 : T.length ≤ 32768 := by omega
  have hlf := list_and_free T
  repeat refine LS.seq ?_
  refine LS.region rfl ?_
  refine OS.pure rfl (fun _ => rfl) rfl ?_
  refine OS.call noGo rfl (fun _ => rfl) ((Copy_ct hT3).mono ?_)
  rintro v L' ⟨rm2, rb2, rfl, rfl⟩
  refine ⟨_, rfl, ?_⟩
  refine OS.pure rfl (fun _ => rfl) rfl ?_
  refine OS.nil ?_
  repeat refine LS.seq ?_
  refine LS.region rfl ?_
  refine OS.pure rfl (fun _ => rfl) rfl ?_
  refine OS.nil ?_
  repeat refine LS.seq ?_
  refine LS.region rfl ?_
  refine OS.pure rfl (fun _ => rfl) rfl ?_
  refine OS.nil ?_
  repeat refine LS.seq ?_
  refine LS.block ?_
  refine LS.loopJ [0, 5, 8, 9, 10] (fun q a L' => ∃ (i : Nat) (S : List Bool) (last : Int), q = frees T - i ∧ i ≤ frees T ∧ frees S + i = frees T ∧ S.length = N ∧ (∀ j : Nat, (j : Int) ≤ last → tkn S j = true) ∧ (∀ j, tkn T j = true → tkn S j = true) ∧
    L' = fm rm2 rb2 T (fm rm rb S L) ∧ a = [.int .i64 (N : Nat), .chan none, .chan none, .chan none, .chan none, ptr rm, .chan none, .chan none, ptr rm2, .int .i64 last, .int .i64 (i : Nat), .chan none, .chan none, .chan none, .chan none, .chan none, .chan none, .chan none, .chan none, .chan none, .chan none, .chan none, .chan none, .chan none, .chan none, .chan none, .chan none, .chan none, .chan none, .chan none, .chan none, .chan none, .chan none, .chan none, .chan none, .chan none, .chan none, .chan none, .chan none, .chan none, .chan none, .chan none, .chan none, .chan none, .chan none, .chan none, .chan none, .chan none, .chan none, .chan none, .chan none, .chan none, .chan none, .chan none, .chan none, .chan none, .chan none, .chan none, .chan none, .chan none, .chan none, .chan none, .chan none, .chan none, .chan none, .chan none, .chan none, .chan none, .chan none, .chan none, .chan none, .chan none, .chan none, .chan none, .chan none, .chan none, .chan none, .chan none, .chan none, .chan none, .chan none, .chan none, .chan none, .chan none, .chan none, .chan none, .chan none, .chan none, .chan none, .chan none, .chan none, .chan none, .chan none, .chan none, .chan none, .chan none, .chan none, .chan none, .chan none, .chan none, .chan none]) (n := frees T) rfl
    ⟨0, T, -1, rfl, by omega, rfl, hT, fun j hj => by omega, fun _ h => h, rfl, rfl⟩ ?_
  rintro q a L' ⟨i, S, last, rfl, hi, hfs, hS, hlast, hmono, rfl, rfl⟩
  have hS3 : S.length ≤ 32768 := by omega
  have hfle := frees_le S
  repeat refine LS.seq ?_
  refine LS.region rfl ?_
  refine OS.pure rfl (fun _ => rfl) rfl ?_
  refine OS.pure rfl (fun _ => rfl) rfl ?_
  refine OS.pure rfl (fun _ => rfl) rfl ?_
  refine OS.call noGo rfl (fun _ => rfl) ((List_ct hT3).mono ?_)
  rintro v L' hg
  refine ⟨_, rfl, ?_⟩
  refine OS.pure rfl (e_len hg.sv rfl rfl rfl rfl rfl) rfl ?_
  refine OS.sub (gv_drop hg) ?_
  refine OS.pure rfl (e_is (e_sub rfl rfl rfl (in_i64 (by omega) (by omega))) (show Value.int .i64 ((N : Int) - ((lst' T).length : Nat)) = .int .i64 (frees T : Nat) by congr 1; omega)) rfl ?_
  refine OS.pure rfl (fun _ => rfl) rfl ?_
  refine OS.nil ?_
  repeat refine LS.seq ?_
  refine LS.cond rfl (fun hc => ?_) (fun hc => ?_)
  · have hc := lt_of hc
    have hpos : ff S < S.length := ff_free.2 (by omega)
    have hI : takeI S = ff S := by unfold takeI; rw [if_pos hpos]
    have hE : takeE S = 0 := by unfold takeE; rw [if_pos hpos]
    have hSt : takeS S = S.set (ff S) true := by unfold takeS; rw [if_pos hpos]
    have hgt : ileB ((ff S : Nat) : Int) last = false := by
      cases hb : ileB ((ff S : Nat) : Int) last with
      | false => rfl
      | true =>
        have := hlast (ff S) (ileB_iff.1 hb)
        rw [ff_here hpos] at this; cases this
    have htn : tkn T (ff S) = false := by
      cases ht : tkn T (ff S) with
      | false => rfl
      | true =>
        have := hmono _ ht
        rw [ff_here hpos] at this; cases this
    refine LS.skip ?_
    repeat refine LS.seq ?_
    refine LS.block ?_
    repeat refine LS.seq ?_
    refine LS.region rfl ?_
    refine OS.pure rfl (fun _ => rfl) rfl ?_
    refine OS.sub (Sub.pulls [3, 3] rfl) ?_
    refine OS.call noGo rfl (fun _ => rfl) ((Take_ct hS3).mono ?_)
    rintro v L' ⟨rfl, rfl⟩
    rw [hI, hE]
    refine ⟨_, rfl, ?_⟩
    refine OS.sub (Sub.pulls [3, 3] rfl) ?_
    refine OS.pure rfl (fun _ => rfl) rfl ?_
    refine OS.pure rfl (fun _ => rfl) rfl ?_
    refine OS.pure rfl (fun _ => rfl) rfl ?_
    refine OS.pure rfl (fun _ => rfl) rfl ?_
    refine OS.pure rfl (fun _ => rfl) rfl ?_
    refine OS.nil ?_
    repeat refine LS.seq ?_
    refine LS.region rfl ?_
    refine OS.pure rfl (fun _ => rfl) rfl ?_
    refine OS.pure rfl (fun _ => rfl) rfl ?_
    refine OS.pure rfl (fun _ => rfl) rfl ?_
    refine OS.pure rfl (fun _ => rfl) rfl ?_
    refine OS.pure rfl (fun _ => rfl) rfl ?_
    refine OS.pure rfl (e_is (fun _ => rfl) (congrArg Value.bool hgt)) rfl ?_
    refine OS.pure rfl (fun _ => rfl) rfl ?_
    refine OS.pure rfl (fun _ => rfl) rfl ?_
    refine OS.pure rfl (fun _ => rfl) rfl ?_
    refine OS.pure rfl (fun _ => rfl) rfl ?_
    refine OS.call noGo rfl (fun _ => rfl) ((Taken_ct hT3 (ff S : Nat)).mono ?_)
    rintro v L' ⟨rfl, rfl⟩
    rw [Int.toNat_natCast, htn, Bool.and_false]
    refine ⟨_, rfl, ?_⟩
    refine OS.pure rfl (fun _ => rfl) rfl ?_
    refine OS.nil ?_
    refine LS.cond rfl (fun hc => by cases hc) (fun hc => ?_)
    refine LS.skip ?_
    repeat refine LS.seq ?_
    refine LS.region rfl ?_
    refine OS.pure rfl (fun _ => rfl) rfl ?_
    refine OS.pure rfl (fun _ => rfl) rfl ?_
    refine OS.nil ?_
    repeat refine LS.seq ?_
    refine LS.region rfl ?_
    refine OS.pure rfl (fun _ => rfl) rfl ?_
    refine OS.pure rfl (e_add rfl rfl rfl (in_i64 (by omega) (by omega))) rfl ?_
    refine OS.pure rfl (fun _ => rfl) rfl ?_
    refine OS.nil ?_
    have hf1 := frees_set hpos (ff_here hpos)
    refine ⟨frees T - (i + 1), by omega, i + 1, takeS S, (ff S : Nat), rfl, by omega, by rw [hSt]; omega, by rw [takeS_len]; exact hS, fun j hj => ?_, fun j hj => ?_, rfl, rfl⟩
    · rw [hSt, tkn_set hpos]
      split
      · rfl
      · exact ff_ahead (by omega)
    · rw [hSt, tkn_set hpos]
      split
      · rfl
      · exact hmono j hj
  · have hc := nlt_of hc
    have hz : frees S = 0 := by omega
    have hfull : ¬ ff S < S.length := fun h => by have := ff_free.1 h; omega
    have hI : takeI S = 0 := by unfold takeI; rw [if_neg hfull]
    have hE : takeE S = 3 := by unfold takeE; rw [if_neg hfull]
    have hSt : takeS S = S := by unfold takeS; rw [if_neg hfull]
    have hlS := list_and_free S
    have hb1 : ieqB (((lst' S).length : Nat) : Int) (N : Int) = true := by rw [ieqB_eq]; simp; omega
    refine LS.exit ?_
    repeat refine LS.seq ?_
    refine LS.region rfl ?_
    refine OS.pure rfl (fun _ => rfl) rfl ?_
    refine OS.sub (Sub.pulls [3, 3] rfl) ?_
    refine OS.call noGo rfl (fun _ => rfl) ((Take_ct hS3).mono ?_)
    rintro v L' ⟨rfl, rfl⟩
    rw [hI, hE, hSt]
    refine ⟨_, rfl, ?_⟩
    refine OS.pure rfl (fun _ => rfl) rfl ?_
    refine OS.pure rfl (fun _ => rfl) rfl ?_
    refine OS.pure rfl (fun _ => rfl) rfl ?_
    refine OS.pure rfl (fun _ => rfl) rfl ?_
    refine OS.pure rfl (fun _ => rfl) rfl ?_
    refine OS.nil ?_
    repeat refine LS.seq ?_
    refine LS.region rfl ?_
    refine OS.pure rfl (fun _ => rfl) rfl ?_
    refine OS.pure rfl (fun _ => rfl) rfl ?_
    refine OS.pure rfl (fun _ => rfl) rfl ?_
    refine OS.pure rfl (fun _ => rfl) rfl ?_
    refine OS.call noGo rfl (fun _ => rfl) ((Free_ct hS3).mono ?_)
    rintro v L' ⟨rfl, rfl⟩
    rw [hz]
    refine ⟨_, rfl, ?_⟩
    refine OS.pure rfl (fun _ => rfl) rfl ?_
    refine OS.pure rfl (fun _ => rfl) rfl ?_
    refine OS.pure rfl (fun _ => rfl) rfl ?_
    refine OS.pure rfl (fun _ => rfl) rfl ?_
    refine OS.call noGo rfl (fun _ => rfl) ((List_ct hS3).mono ?_)
    rintro v L' hg
    refine ⟨_, rfl, ?_⟩
    refine OS.pure rfl (e_len hg.sv rfl rfl rfl rfl rfl) rfl ?_
    refine OS.pure rfl (fun _ => rfl) rfl ?_
    refine OS.pure rfl (e_is (fun _ => rfl) (congrArg Value.bool hb1)) rfl ?_
    refine OS.pure rfl (fun _ => rfl) rfl ?_
    refine OS.pure rfl (fun _ => rfl) rfl ?_
    refine OS.nil ?_
    refine LS.ret ⟨_, fun _ _ => rfl, ?_⟩
    rfl
end Go.Proofs.Ytlifdkihjnnonaa
