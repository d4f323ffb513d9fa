/- Layer 1: things that are laid, by the program and by the document's answer. -/
import Derived.Test.YtnfenpkkhkdkhaaLb
import Derived.Test.YtnfenpkkhkdkhaaOpen
namespace Go.Proofs.Ytnfenpkkhkdkhaa
open Go.Am
set_option linter.unusedVariables false
set_option maxRecDepth 20000

theorem rNum_ct {L : RL} {b : Value} {bs : List UInt8} {n : Nat} (m : Int) (h0 : -9223372036854775808 ≤ m) (h1 : m ≤ 9223372036854775807) (hb : SV 1 L b n (byteCells bs)) (hn : n ≤ 400000000000) :
    CS Try.prog 47 [b, .int .i64 m] L fun v L' => GV 5 1 L v (n + (grp (zig m)).length) (byteCells (bs ++ grp (zig m))) L' := by
  have hg : (grp (zig m)).length ≤ 10 := grp_len (by omega) (by have := zig_lt h0 h1; omega)
  refine CS.mk (fn := Try.f47) rfl rfl rfl rfl ?_
  repeat refine LS.seq ?_
  refine LS.region rfl ?_
  refine OS.pure rfl (fun _ => rfl) rfl ?_
  refine OS.nil ?_
  repeat refine LS.seq ?_
  refine LS.region rfl ?_
  refine OS.pure rfl (fun _ => rfl) rfl ?_
  refine OS.pure rfl (fun _ => rfl) rfl ?_
  refine OS.call noGo rfl (fun _ => rfl) ((twice_ct m h0 h1).mono ?_)
  rintro v L' ⟨rfl, rfl⟩
  refine ⟨_, rfl, ?_⟩
  refine OS.call noGo rfl (fun _ => rfl) ((groups_ct (zig m) (zig_lt h0 h1)).mono ?_)
  rintro v L' ⟨rfl, rfl⟩
  refine ⟨_, rfl, ?_⟩
  refine OS.call noGo rfl (fun _ => rfl) ((behind_ct hb hn (by omega)).mono ?_)
  rintro v L' hv
  refine ⟨_, rfl, ?_⟩
  refine OS.pure rfl (fun _ => rfl) rfl ?_
  refine OS.nil ?_
  refine LS.ret ⟨_, fun _ _ => rfl, ?_⟩
  exact hv

theorem rCount_ct {L : RL} {b : Value} {bs : List UInt8} {n : Nat} (m : Int) (hb : SV 1 L b n (byteCells bs)) (hn : n ≤ 400000000000) :
    CS Try.prog 48 [b, .int .i64 m] L fun v L' => GV 5 1 L v (n + (cnt m).length) (byteCells (bs ++ cnt m)) L' := by
  refine CS.mk (fn := Try.f48) rfl rfl rfl rfl ?_
  repeat refine LS.seq ?_
  refine LS.region rfl ?_
  refine OS.pure rfl (fun _ => rfl) rfl ?_
  refine OS.nil ?_
  by_cases hm : m < 0
  · have hc : cnt m = [] := by unfold cnt; rw [if_neg (by omega)]
    have hb0 : (!ileB 0 m) = true := by rw [ileB_eq]; simp; omega
    repeat refine LS.seq ?_
    refine LS.region rfl ?_
    refine OS.pure rfl (fun _ => rfl) rfl ?_
    refine OS.pure rfl (e_is (fun _ => rfl) (congrArg Value.bool hb0)) rfl ?_
    refine OS.pure rfl (fun _ => rfl) rfl ?_
    refine OS.skip rfl rfl ?_
    refine OS.skip rfl rfl ?_
    refine OS.pure rfl (fun _ => rfl) rfl ?_
    refine OS.nil ?_
    refine LS.cond rfl (fun h => ?_) (fun h => by cases h)
    repeat refine LS.seq ?_
    refine LS.region rfl ?_
    refine OS.pure rfl (fun _ => rfl) rfl ?_
    refine OS.call noGo rfl (fun _ => rfl) ((behind_ct (s := []) hb hn (by decide)).mono ?_)
    rintro v L' hv
    refine ⟨_, rfl, ?_⟩
    refine OS.pure rfl (fun _ => rfl) rfl ?_
    refine OS.nil ?_
    refine LS.ret ⟨_, fun _ _ => rfl, ?_⟩
    rw [hc]; exact hv
  · have hb0 : (!ileB 0 m) = false := by rw [ileB_eq]; simp; omega
    repeat refine LS.seq ?_
    refine LS.region rfl ?_
    refine OS.pure rfl (fun _ => rfl) rfl ?_
    refine OS.pure rfl (e_is (fun _ => rfl) (congrArg Value.bool hb0)) rfl ?_
    refine OS.pure rfl (fun _ => rfl) rfl ?_
    refine OS.pure rfl (fun _ => rfl) rfl ?_
    refine OS.pure rfl (fun _ => rfl) rfl ?_
    refine OS.pure rfl (fun _ => rfl) rfl ?_
    refine OS.nil ?_
    refine LS.cond (b := !ileB m 2147483647) rfl (fun h => ?_) (fun h => ?_)
    · have h := lt_of h
      have hc : cnt m = [] := by unfold cnt; rw [if_neg (by omega)]
      repeat refine LS.seq ?_
      refine LS.region rfl ?_
      refine OS.pure rfl (fun _ => rfl) rfl ?_
      refine OS.call noGo rfl (fun _ => rfl) ((behind_ct (s := []) hb hn (by decide)).mono ?_)
      rintro v L' hv
      refine ⟨_, rfl, ?_⟩
      refine OS.pure rfl (fun _ => rfl) rfl ?_
      refine OS.nil ?_
      refine LS.ret ⟨_, fun _ _ => rfl, ?_⟩
      rw [hc]; exact hv
    · have h := nlt_of h
      obtain ⟨k, rfl⟩ := Int.eq_ofNat_of_zero_le (show 0 ≤ m by omega)
      have hc : cnt (k : Int) = grp k := by unfold cnt; rw [if_pos (by omega)]; rfl
      have hg : (grp k).length ≤ 10 := grp_len (by omega) (by omega)
      refine LS.skip ?_
      repeat refine LS.seq ?_
      refine LS.region rfl ?_
      refine OS.pure rfl (fun _ => rfl) rfl ?_
      refine OS.pure rfl (fun _ => rfl) rfl ?_
      refine OS.pure rfl (e_conv rfl rfl rfl rfl (in_u64 (by omega) (by omega))) rfl ?_
      refine OS.call noGo rfl (fun _ => rfl) ((groups_ct k (by omega)).mono ?_)
      rintro v L' ⟨rfl, rfl⟩
      refine ⟨_, rfl, ?_⟩
      refine OS.call noGo rfl (fun _ => rfl) ((behind_ct hb hn (by omega)).mono ?_)
      rintro v L' hv
      refine ⟨_, rfl, ?_⟩
      refine OS.pure rfl (fun _ => rfl) rfl ?_
      refine OS.nil ?_
      refine LS.ret ⟨_, fun _ _ => rfl, ?_⟩
      rw [hc]; exact hv

/-- What is not named any more. -/
theorem gv_over {e : TypeId} {sz n m : Nat} {F L L' : RL} {v v' : Value} {cs cs' : List Value} (g : GV e sz F v n cs L) (g' : GV e sz L v' m cs' L') : ∃ L'', Sub L'' L' ∧ GV e sz F v' m cs' L'' := by
  rcases g with ⟨rfl, rfl, rfl, rfl⟩ | ⟨r, rfl, hl, rfl⟩
  · exact ⟨L', ⟨[], by simp⟩, g'⟩
  · rcases g' with ⟨rfl, rfl, rfl, rfl⟩ | ⟨r', rfl, hl', rfl⟩
    · exact ⟨F, ⟨[(r, .cells e cs)], by simpa using List.perm_append_comm (l₁ := [(r, ARow.cells e cs)]) (l₂ := F)⟩, .inl ⟨rfl, rfl, rfl, rfl⟩⟩
    · exact ⟨(r', .cells e cs') :: F, ⟨[(r, .cells e cs)], by simpa using List.perm_append_comm (l₁ := [(r, ARow.cells e cs)]) (l₂ := F)⟩, GV.of hl'⟩

theorem rStr_ct {L : RL} {b : Value} {bs s : List UInt8} {n : Nat} (hs : s.length ≤ 200000) (hb : SV 1 L b n (byteCells bs)) (hn : n ≤ 300000000000) :
    CS Try.prog 49 [b, .string ⟨⟨s⟩⟩] L fun v L' => GV 5 1 L v (n + ((cnt s.length).length + s.length)) (byteCells (bs ++ (cnt s.length ++ s))) L' := by
  have hg : (cnt s.length).length ≤ 10 := by
    unfold cnt; rw [if_pos (by omega)]; exact grp_len (by omega) (by simp; omega)
  refine CS.mk (fn := Try.f49) rfl rfl rfl rfl ?_
  repeat refine LS.seq ?_
  refine LS.region rfl ?_
  refine OS.pure rfl (fun _ => rfl) rfl ?_
  refine OS.nil ?_
  repeat refine LS.seq ?_
  refine LS.region rfl ?_
  refine OS.pure rfl (fun _ => rfl) rfl ?_
  refine OS.pure rfl (fun _ => rfl) rfl ?_
  refine OS.pure rfl (fun _ => rfl) rfl ?_
  refine OS.call noGo rfl (fun _ => rfl) ((rCount_ct s.length hb (by omega)).mono ?_)
  rintro v L' hv
  refine ⟨_, rfl, ?_⟩
  refine OS.pure rfl (fun _ => rfl) rfl ?_
  refine OS.call noGo rfl (fun _ => rfl) ((behind_ct hv.sv (by omega) (by omega)).mono ?_)
  rintro v' L'' hv'
  obtain ⟨M, hM, hv'⟩ := gv_over hv hv'
  refine ⟨_, rfl, ?_⟩
  refine OS.sub hM ?_
  refine OS.pure rfl (fun _ => rfl) rfl ?_
  refine OS.nil ?_
  refine LS.ret ⟨_, fun _ _ => rfl, ?_⟩
  rw [← Nat.add_assoc, ← List.append_assoc]
  exact hv'

theorem rFlag_ct {L : RL} {b : Value} {bs : List UInt8} {n : Nat} (v : Bool) (hb : SV 1 L b n (byteCells bs)) (hn : n ≤ 400000000000) :
    CS Try.prog 50 [b, .bool v] L fun v' L' => GV 5 1 L v' (n + 1) (byteCells (bs ++ [if v then 1 else 0])) L' := by
  cases v
  · refine CS.mk (fn := Try.f50) rfl rfl rfl rfl ?_
    repeat refine LS.seq ?_
    refine LS.region rfl ?_
    refine OS.pure rfl (fun _ => rfl) rfl ?_
    refine OS.nil ?_
    repeat refine LS.seq ?_
    refine LS.region rfl ?_
    refine OS.pure rfl (fun _ => rfl) rfl ?_
    refine OS.nil ?_
    refine LS.cond rfl (fun h => by cases h) (fun h => ?_)
    refine LS.skip ?_
    repeat refine LS.seq ?_
    refine LS.region rfl ?_
    refine OS.pure rfl (fun _ => rfl) rfl ?_
    refine OS.call noGo rfl (fun _ => rfl) ((behind_ct (s := [0]) hb hn (by decide)).mono ?_)
    rintro v L' hv
    refine ⟨_, rfl, ?_⟩
    refine OS.pure rfl (fun _ => rfl) rfl ?_
    refine OS.nil ?_
    refine LS.ret ⟨_, fun _ _ => rfl, ?_⟩
    exact hv
  · refine CS.mk (fn := Try.f50) rfl rfl rfl rfl ?_
    repeat refine LS.seq ?_
    refine LS.region rfl ?_
    refine OS.pure rfl (fun _ => rfl) rfl ?_
    refine OS.nil ?_
    repeat refine LS.seq ?_
    refine LS.region rfl ?_
    refine OS.pure rfl (fun _ => rfl) rfl ?_
    refine OS.nil ?_
    refine LS.cond rfl (fun h => ?_) (fun h => by cases h)
    repeat refine LS.seq ?_
    refine LS.region rfl ?_
    refine OS.pure rfl (fun _ => rfl) rfl ?_
    refine OS.call noGo rfl (fun _ => rfl) ((behind_ct (s := [1]) hb hn (by decide)).mono ?_)
    rintro v L' hv
    refine ⟨_, rfl, ?_⟩
    refine OS.pure rfl (fun _ => rfl) rfl ?_
    refine OS.nil ?_
    refine LS.ret ⟨_, fun _ _ => rfl, ?_⟩
    exact hv

/-- The bytes of a thing. -/
def Th.enc (t : Th) : List UInt8 := if t.k = 0 then grp (zig t.n) else if t.k = 1 then cnt t.n else if t.k = 2 then cnt t.s.data.toList.length ++ t.s.data.toList else [if t.n.tmod 2 ≠ 0 then 1 else 0]

/-- The row ahead of the others is not named any more. -/
theorem gv_cut {e : TypeId} {sz m : Nat} {F L' : RL} {x : Nat × ARow} {v' : Value} {cs' : List Value} (g' : GV e sz (x :: F) v' m cs' L') : ∃ L'', Sub L'' L' ∧ GV e sz F v' m cs' L'' := by
  rcases g' with ⟨rfl, rfl, rfl, rfl⟩ | ⟨r', rfl, hl', rfl⟩
  · exact ⟨F, ⟨[x], by simpa using List.perm_append_comm (l₁ := [x]) (l₂ := F)⟩, .inl ⟨rfl, rfl, rfl, rfl⟩⟩
  · exact ⟨(r', .cells e cs') :: F, ⟨[x], by simpa using List.perm_append_comm (l₁ := [x]) (l₂ := F)⟩, GV.of hl'⟩

theorem lay_ct {L : RL} {b : Value} {bs : List UInt8} {n : Nat} (t : Th) (ht : t.ok) (hts : t.s.data.toList.length ≤ 200000) (hb : SV 1 L b n (byteCells bs)) (hn : n ≤ 300000000000) :
    CS Try.prog 10 [t.val, b] L fun v L' => ∃ r, v = .slice (some ⟨r, 0, none⟩) (n + t.enc.length) openCap ∧ L' = (r, .cells 5 (byteCells (bs ++ t.enc))) :: L := by
  obtain ⟨k, m, s⟩ := t
  obtain ⟨h0, h1, _⟩ := ht
  simp only at h0 h1 hts
  simp only [Th.val, Th.enc]
  have hne : ∀ j : Nat, j < 256 → k ≠ UInt8.ofNat j → ieqB (k.toNat : Int) j = false := fun j hj hne => by
    rw [ieqB_eq]
    have : k.toNat ≠ j := fun hh => hne (by rw [← hh]; simp)
    simpa using (show ¬ ((k.toNat : Int) = j) by omega)
  refine CS.mk (fn := Try.f10) rfl rfl rfl rfl ?_
  repeat refine LS.seq ?_
  refine LS.region rfl ?_
  refine OS.fresh rfl (e_new (fun _ => rfl) rfl) (fun _ => rfl) (fun r0 => ?_)
  refine OS.pure rfl (fun _ => rfl) rfl ?_
  refine OS.nil ?_
  repeat refine LS.seq ?_
  refine LS.region rfl ?_
  refine OS.pure rfl (fun _ => rfl) rfl ?_
  refine OS.read rfl (e_load 0 rfl rfl rfl rfl rfl) rfl ?_
  refine OS.nil ?_
  repeat refine LS.seq ?_
  refine LS.block ?_
  by_cases hk0 : k = 0
  · subst hk0
    repeat refine LS.seq ?_
    refine LS.region rfl ?_
    refine OS.pure rfl (fun _ => rfl) rfl ?_
    refine OS.pure rfl (fun _ => rfl) rfl ?_
    refine OS.nil ?_
    refine LS.cond rfl (fun h => ?_) (fun h => by cases h)
    repeat refine LS.seq ?_
    refine LS.region rfl ?_
    refine OS.pure rfl (fun _ => rfl) rfl ?_
    refine OS.pure rfl (fun _ => rfl) rfl ?_
    refine OS.read rfl (e_load 0 rfl rfl rfl rfl rfl) rfl ?_
    refine OS.call noGo rfl (fun _ => rfl) ((Num_ct m h0 h1 hb.cons (by omega)).mono ?_)
    rintro v L' ⟨r, rfl, rfl⟩
    refine ⟨_, rfl, ?_⟩
    refine OS.pure rfl (fun _ => rfl) rfl ?_
    refine OS.sub (Sub.drop 1 rfl) ?_
    refine OS.nil ?_
    refine LS.ret ⟨_, fun _ _ => rfl, ?_⟩
    exact ⟨r, rfl, rfl⟩
  repeat refine LS.seq ?_
  refine LS.region rfl ?_
  refine OS.pure rfl (e_is (fun _ => rfl) (congrArg Value.bool (hne 0 (by omega) hk0))) rfl ?_
  refine OS.pure rfl (fun _ => rfl) rfl ?_
  refine OS.nil ?_
  refine LS.cond rfl (fun h => by cases h) (fun h => ?_)
  rw [if_neg hk0]
  by_cases hk1 : k = 1
  · subst hk1
    repeat refine LS.seq ?_
    refine LS.region rfl ?_
    refine OS.pure rfl (fun _ => rfl) rfl ?_
    refine OS.pure rfl (fun _ => rfl) rfl ?_
    refine OS.nil ?_
    refine LS.cond rfl (fun h => ?_) (fun h => by cases h)
    repeat refine LS.seq ?_
    refine LS.region rfl ?_
    refine OS.pure rfl (fun _ => rfl) rfl ?_
    refine OS.pure rfl (fun _ => rfl) rfl ?_
    refine OS.read rfl (e_load 0 rfl rfl rfl rfl rfl) rfl ?_
    refine OS.call noGo rfl (fun _ => rfl) ((Count_ct m hb.cons (by omega)).mono ?_)
    rintro v L' ⟨r, rfl, rfl⟩
    refine ⟨_, rfl, ?_⟩
    refine OS.pure rfl (fun _ => rfl) rfl ?_
    refine OS.sub (Sub.drop 1 rfl) ?_
    refine OS.nil ?_
    refine LS.ret ⟨_, fun _ _ => rfl, ?_⟩
    exact ⟨r, rfl, rfl⟩
  repeat refine LS.seq ?_
  refine LS.region rfl ?_
  refine OS.pure rfl (e_is (fun _ => rfl) (congrArg Value.bool (hne 1 (by omega) hk1))) rfl ?_
  refine OS.pure rfl (fun _ => rfl) rfl ?_
  refine OS.nil ?_
  refine LS.cond rfl (fun h => by cases h) (fun h => ?_)
  rw [if_neg hk1]
  by_cases hk2 : k = 2
  · subst hk2
    repeat refine LS.seq ?_
    refine LS.region rfl ?_
    refine OS.pure rfl (fun _ => rfl) rfl ?_
    refine OS.pure rfl (fun _ => rfl) rfl ?_
    refine OS.nil ?_
    refine LS.cond rfl (fun h => ?_) (fun h => by cases h)
    repeat refine LS.seq ?_
    refine LS.region rfl ?_
    refine OS.pure rfl (fun _ => rfl) rfl ?_
    refine OS.pure rfl (fun _ => rfl) rfl ?_
    refine OS.read rfl (e_load 0 rfl rfl rfl rfl rfl) rfl ?_
    refine OS.call noGo rfl (fun _ => rfl) ((Str_ct (s := s.data.toList) (by omega) hb.cons (by omega)).mono ?_)
    rintro v L' ⟨r, rfl, rfl⟩
    refine ⟨_, rfl, ?_⟩
    refine OS.pure rfl (fun _ => rfl) rfl ?_
    refine OS.sub (Sub.drop 1 rfl) ?_
    refine OS.nil ?_
    refine LS.ret ⟨_, fun _ _ => rfl, ?_⟩
    exact ⟨r, by rw [if_pos rfl, List.length_append]; rfl, by rw [if_pos rfl]⟩
  repeat refine LS.seq ?_
  refine LS.region rfl ?_
  refine OS.pure rfl (e_is (fun _ => rfl) (congrArg Value.bool (hne 2 (by omega) hk2))) rfl ?_
  refine OS.pure rfl (fun _ => rfl) rfl ?_
  refine OS.nil ?_
  refine LS.cond rfl (fun h => by cases h) (fun h => ?_)
  rw [if_neg hk2]
  refine LS.skip ?_
  repeat refine LS.seq ?_
  refine LS.region rfl ?_
  refine OS.pure rfl (fun _ => rfl) rfl ?_
  refine OS.pure rfl (fun _ => rfl) rfl ?_
  refine OS.read rfl (e_load 0 rfl rfl rfl rfl rfl) rfl ?_
  refine OS.pure rfl (fun _ => rfl) rfl ?_
  refine OS.pure rfl (fun _ => rfl) rfl ?_
  have hv : (if (!ieqB (m.tmod 2) 0) = true then (1 : UInt8) else 0) = (if m.tmod 2 ≠ 0 then 1 else 0) := by rw [ieqB_eq]; simp
  refine OS.call noGo rfl (fun _ => rfl) ((Flag_ct (!ieqB (m.tmod 2) 0) hb.cons (by omega)).mono ?_)
  rintro v L' ⟨r, rfl, rfl⟩
  refine ⟨_, rfl, ?_⟩
  refine OS.pure rfl (fun _ => rfl) rfl ?_
  refine OS.sub (Sub.drop 1 rfl) ?_
  refine OS.nil ?_
  refine LS.ret ⟨_, fun _ _ => rfl, ?_⟩
  exact ⟨r, rfl, by rw [hv]⟩

theorem ref_ct {L : RL} {b : Value} {bs : List UInt8} {n : Nat} (t : Th) (ht : t.ok) (hts : t.s.data.toList.length ≤ 200000) (hb : SV 1 L b n (byteCells bs)) (hn : n ≤ 300000000000) :
    CS Try.prog 11 [t.val, b] L fun v L' => GV 5 1 L v (n + t.enc.length) (byteCells (bs ++ t.enc)) L' := by
  obtain ⟨k, m, s⟩ := t
  obtain ⟨h0, h1, _⟩ := ht
  simp only at h0 h1 hts
  simp only [Th.val, Th.enc]
  have hne : ∀ j : Nat, j < 256 → k ≠ UInt8.ofNat j → ieqB (k.toNat : Int) j = false := fun j hj hne => by
    rw [ieqB_eq]
    have : k.toNat ≠ j := fun hh => hne (by rw [← hh]; simp)
    simpa using (show ¬ ((k.toNat : Int) = j) by omega)
  refine CS.mk (fn := Try.f11) rfl rfl rfl rfl ?_
  repeat refine LS.seq ?_
  refine LS.region rfl ?_
  refine OS.fresh rfl (e_new (fun _ => rfl) rfl) (fun _ => rfl) (fun r0 => ?_)
  refine OS.pure rfl (fun _ => rfl) rfl ?_
  refine OS.nil ?_
  repeat refine LS.seq ?_
  refine LS.region rfl ?_
  refine OS.pure rfl (fun _ => rfl) rfl ?_
  refine OS.read rfl (e_load 0 rfl rfl rfl rfl rfl) rfl ?_
  refine OS.nil ?_
  repeat refine LS.seq ?_
  refine LS.block ?_
  by_cases hk0 : k = 0
  · subst hk0
    repeat refine LS.seq ?_
    refine LS.region rfl ?_
    refine OS.pure rfl (fun _ => rfl) rfl ?_
    refine OS.pure rfl (fun _ => rfl) rfl ?_
    refine OS.nil ?_
    refine LS.cond rfl (fun h => ?_) (fun h => by cases h)
    repeat refine LS.seq ?_
    refine LS.region rfl ?_
    refine OS.pure rfl (fun _ => rfl) rfl ?_
    refine OS.pure rfl (fun _ => rfl) rfl ?_
    refine OS.read rfl (e_load 0 rfl rfl rfl rfl rfl) rfl ?_
    refine OS.call noGo rfl (fun _ => rfl) ((rNum_ct m h0 h1 hb.cons (by omega)).mono ?_)
    rintro v L' hv'
    obtain ⟨M, hM, hv'⟩ := gv_cut hv'
    refine ⟨_, rfl, ?_⟩
    refine OS.sub hM ?_
    refine OS.pure rfl (fun _ => rfl) rfl ?_
    refine OS.nil ?_
    refine LS.ret ⟨_, fun _ _ => rfl, ?_⟩
    exact hv'
  repeat refine LS.seq ?_
  refine LS.region rfl ?_
  refine OS.pure rfl (e_is (fun _ => rfl) (congrArg Value.bool (hne 0 (by omega) hk0))) rfl ?_
  refine OS.pure rfl (fun _ => rfl) rfl ?_
  refine OS.nil ?_
  refine LS.cond rfl (fun h => by cases h) (fun h => ?_)
  rw [if_neg hk0]
  by_cases hk1 : k = 1
  · subst hk1
    repeat refine LS.seq ?_
    refine LS.region rfl ?_
    refine OS.pure rfl (fun _ => rfl) rfl ?_
    refine OS.pure rfl (fun _ => rfl) rfl ?_
    refine OS.nil ?_
    refine LS.cond rfl (fun h => ?_) (fun h => by cases h)
    repeat refine LS.seq ?_
    refine LS.region rfl ?_
    refine OS.pure rfl (fun _ => rfl) rfl ?_
    refine OS.pure rfl (fun _ => rfl) rfl ?_
    refine OS.read rfl (e_load 0 rfl rfl rfl rfl rfl) rfl ?_
    refine OS.call noGo rfl (fun _ => rfl) ((rCount_ct m hb.cons (by omega)).mono ?_)
    rintro v L' hv'
    obtain ⟨M, hM, hv'⟩ := gv_cut hv'
    refine ⟨_, rfl, ?_⟩
    refine OS.sub hM ?_
    refine OS.pure rfl (fun _ => rfl) rfl ?_
    refine OS.nil ?_
    refine LS.ret ⟨_, fun _ _ => rfl, ?_⟩
    exact hv'
  repeat refine LS.seq ?_
  refine LS.region rfl ?_
  refine OS.pure rfl (e_is (fun _ => rfl) (congrArg Value.bool (hne 1 (by omega) hk1))) rfl ?_
  refine OS.pure rfl (fun _ => rfl) rfl ?_
  refine OS.nil ?_
  refine LS.cond rfl (fun h => by cases h) (fun h => ?_)
  rw [if_neg hk1]
  by_cases hk2 : k = 2
  · subst hk2
    repeat refine LS.seq ?_
    refine LS.region rfl ?_
    refine OS.pure rfl (fun _ => rfl) rfl ?_
    refine OS.pure rfl (fun _ => rfl) rfl ?_
    refine OS.nil ?_
    refine LS.cond rfl (fun h => ?_) (fun h => by cases h)
    repeat refine LS.seq ?_
    refine LS.region rfl ?_
    refine OS.pure rfl (fun _ => rfl) rfl ?_
    refine OS.pure rfl (fun _ => rfl) rfl ?_
    refine OS.read rfl (e_load 0 rfl rfl rfl rfl rfl) rfl ?_
    refine OS.call noGo rfl (fun _ => rfl) ((rStr_ct (s := s.data.toList) (by omega) hb.cons (by omega)).mono ?_)
    rintro v L' hv'
    obtain ⟨M, hM, hv'⟩ := gv_cut hv'
    refine ⟨_, rfl, ?_⟩
    refine OS.sub hM ?_
    refine OS.pure rfl (fun _ => rfl) rfl ?_
    refine OS.nil ?_
    refine LS.ret ⟨_, fun _ _ => rfl, ?_⟩
    rw [if_pos rfl, List.length_append]; exact hv'
  repeat refine LS.seq ?_
  refine LS.region rfl ?_
  refine OS.pure rfl (e_is (fun _ => rfl) (congrArg Value.bool (hne 2 (by omega) hk2))) rfl ?_
  refine OS.pure rfl (fun _ => rfl) rfl ?_
  refine OS.nil ?_
  refine LS.cond rfl (fun h => by cases h) (fun h => ?_)
  rw [if_neg hk2]
  refine LS.skip ?_
  repeat refine LS.seq ?_
  refine LS.region rfl ?_
  refine OS.pure rfl (fun _ => rfl) rfl ?_
  refine OS.pure rfl (fun _ => rfl) rfl ?_
  refine OS.read rfl (e_load 0 rfl rfl rfl rfl rfl) rfl ?_
  refine OS.pure rfl (fun _ => rfl) rfl ?_
  refine OS.pure rfl (fun _ => rfl) rfl ?_
  have hv : (if (!ieqB (m.tmod 2) 0) = true then (1 : UInt8) else 0) = (if m.tmod 2 ≠ 0 then 1 else 0) := by rw [ieqB_eq]; simp
  refine OS.call noGo rfl (fun _ => rfl) ((rFlag_ct (!ieqB (m.tmod 2) 0) hb.cons (by omega)).mono ?_)
  rintro v L' hv'
  obtain ⟨M, hM, hv'⟩ := gv_cut hv'
  refine ⟨_, rfl, ?_⟩
  refine OS.sub hM ?_
  refine OS.pure rfl (fun _ => rfl) rfl ?_
  refine OS.nil ?_
  refine LS.ret ⟨_, fun _ _ => rfl, ?_⟩
  rw [hv] at hv'; exact hv'
end Go.Proofs.Ytnfenpkkhkdkhaa
