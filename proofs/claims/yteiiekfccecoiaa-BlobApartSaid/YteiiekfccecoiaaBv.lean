/- Layer 8: what BlobApart comes to. -/
import Derived.Test.YteiiekfccecoiaaBu
namespace Go.Proofs.Yteiiekfccecoiaa
open Go.Am
set_option linter.unusedVariables false
set_option maxRecDepth 20000

abbrev idsV (V : List (List Nat × List UInt8)) : List Value := ints (V.map vid)
abbrev flt (V : List (List Nat × List UInt8)) : List Nat := V.flatMap (·.1)
theorem makeT_ints : makeT Try.prog 42 = some (3, 1, 8, [.int .i64 0]) := by kernel_rfl
set_option maxHeartbeats 4000000 in
theorem apart_ct {L : RL} {lv dv : Value} {m md : Nat} {zs ds : List Int} (blocks : Int) (hl : SV 1 L lv m (zs.map fun z => .int .i64 z)) (hm : m ≤ 9223372036854775807) (hd : SV 1 L dv md (ds.map fun z => .int .i64 z)) (hmd : md ≤ 9223372036854775807) :
    CS Try.prog 5 [.int .i64 blocks, lv, dv] L fun v' _ => v' = .bool true := by
  have hlen : zs.length = m := by have := hl.len; simpa using this
  have hdlen : ds.length = md := by have := hd.len; simpa using this
  obtain ⟨n, hn⟩ : ∃ n, n = uns blocks % 300 := ⟨_, rfl⟩
  refine CS.mk (fn := Try.f5) rfl rfl rfl rfl ?_
  repeat refine LS.seq ?_
  refine LS.region rfl ?_
  refine OS.pure rfl (fun _ => rfl) rfl ?_
  refine OS.nil ?_
  repeat refine LS.seq ?_
  refine LS.region rfl ?_
  refine OS.pure rfl (fun _ => rfl) rfl ?_
  refine OS.pure rfl (e_uns rfl rfl rfl rfl) rfl ?_
  refine OS.pure rfl (e_is (e_rem (m := uns blocks) (n := 300) rfl rfl rfl (by decide)) (congrArg (fun x : Nat => Value.int .u64 (x : Int)) hn.symm)) rfl ?_
  refine OS.pure rfl (e_conv (k' := .i64) rfl rfl rfl rfl (in_i64 (by omega) (by omega))) rfl ?_
  refine OS.pure rfl (fun _ => rfl) rfl ?_
  refine OS.nil ?_
  by_cases hm40 : 40 < m
  · have hb2 : (!ileB (m : Int) 40) = true := by rw [ileB_eq]; simp; omega
    repeat refine LS.seq ?_
    refine LS.region rfl ?_
    refine OS.pure rfl (fun _ => rfl) rfl ?_
    refine OS.pure rfl (e_len hl rfl rfl rfl rfl rfl) rfl ?_
    refine OS.pure rfl (e_is (fun _ => rfl) (congrArg Value.bool hb2)) rfl ?_
    refine OS.pure rfl (fun _ => rfl) rfl ?_
    refine OS.skip rfl rfl ?_
    refine OS.skip rfl rfl ?_
    refine OS.pure rfl (fun _ => rfl) rfl ?_
    refine OS.nil ?_
    refine LS.cond rfl (fun hc => ?_) (fun hc => by cases hc)
    repeat refine LS.seq ?_
    refine LS.region rfl ?_
    refine OS.call noGo rfl (fun _ => rfl) ((awake_ct).mono ?_)
    rintro v L' ⟨rfl, hLL⟩
    refine ⟨_, rfl, ?_⟩
    refine OS.pure rfl (fun _ => rfl) rfl ?_
    refine OS.nil ?_
    refine LS.ret ⟨_, fun _ _ => rfl, ?_⟩
    rfl
  have hb2 : (!ileB (m : Int) 40) = false := by rw [ileB_eq]; simp; omega
  repeat refine LS.seq ?_
  refine LS.region rfl ?_
  refine OS.pure rfl (fun _ => rfl) rfl ?_
  refine OS.pure rfl (e_len hl rfl rfl rfl rfl rfl) rfl ?_
  refine OS.pure rfl (e_is (fun _ => rfl) (congrArg Value.bool hb2)) rfl ?_
  refine OS.pure rfl (fun _ => rfl) rfl ?_
  refine OS.call noGo rfl (fun _ => rfl) ((awake_ct).mono ?_)
  rintro v L' ⟨rfl, hLL⟩
  have hLL := hLL.symm
  subst hLL
  refine ⟨_, rfl, ?_⟩
  refine OS.pure rfl (fun _ => rfl) rfl ?_
  refine OS.pure rfl (fun _ => rfl) rfl ?_
  refine OS.nil ?_
  refine LS.cond rfl (fun hc => by cases hc) (fun hc => ?_)
  refine LS.skip ?_
  repeat refine LS.seq ?_
  refine LS.region rfl ?_
  refine OS.pure rfl (fun _ => rfl) rfl ?_
  refine OS.call noGo rfl (fun _ => rfl) ((fresh_ct n (by omega)).mono ?_)
  rintro v L₁ ⟨c, Y0, hcb, rfl, rfl⟩
  refine ⟨_, rfl, ?_⟩
  refine OS.pure rfl (fun _ => rfl) rfl ?_
  refine OS.pure rfl (fun _ => rfl) rfl ?_
  refine OS.pure rfl (fun _ => rfl) rfl ?_
  refine OS.pure rfl (fun _ => rfl) rfl ?_
  refine OS.pure rfl (fun _ => rfl) rfl ?_
  refine OS.pure rfl (fun _ => rfl) rfl ?_
  refine OS.pure rfl (fun _ => rfl) rfl ?_
  refine OS.nil ?_
  repeat refine LS.seq ?_
  refine LS.region rfl ?_
  refine OS.pure rfl (fun _ => rfl) rfl ?_
  refine OS.pure rfl (fun _ => rfl) rfl ?_
  refine OS.nil ?_
  refine LS.cond rfl (fun hc => by cases hc) (fun hc => ?_)
  refine LS.skip ?_
  repeat refine LS.seq ?_
  refine LS.region rfl ?_
  refine OS.pure rfl (fun _ => rfl) rfl ?_
  refine OS.nil ?_
  repeat refine LS.seq ?_
  refine LS.region rfl ?_
  refine OS.pure rfl (fun _ => rfl) rfl ?_
  refine OS.nil ?_
  repeat refine LS.seq ?_
  refine LS.block ?_
  refine LS.loopJ [1, 2, 7, 9, 10, 11, 12] (fun k a L₁ => ∃ i, k = m - i ∧ i ≤ m ∧ ∃ (c : Whr) (s : Dk) (T : List Bool) (V : List (List Nat × List UInt8)) (u : Value) (Yh Y : RL), W8 c s T V (400 * i) ∧ s.dead = false ∧ s.cut = false ∧ T.length = n ∧ V.length ≤ i ∧ HV 3 c.rD u V.length (idsV V) Yh ∧ L₁ = bl c s T (Yh ++ (Y ++ L)) ∧
    a = [.chan none, lv, dv, .chan none, .chan none, .chan none, .chan none, .int .i64 (n : Nat), .chan none, ptr c.rm, ptr c.rD, u, .int .i64 (i : Nat), .chan none, .chan none, .chan none, .chan none, .chan none, .chan none, .chan none, .chan none, .chan none, .chan none, .chan none, .chan none, .chan none, .chan none, .chan none, .chan none, .chan none, .chan none, .chan none, .chan none, .chan none, .chan none, .chan none, .chan none, .chan none, .chan none, .chan none, .chan none, .chan none, .chan none, .chan none, .chan none, .chan none, .chan none, .chan none, .chan none, .chan none, .chan none, .chan none, .chan none, .chan none, .chan none, .chan none, .chan none, .chan none, .chan none, .chan none, .chan none, .chan none, .chan none, .chan none, .chan none, .chan none, .chan none, .chan none, .chan none, .chan none, .chan none, .chan none, .chan none, .chan none, .chan none, .chan none, .chan none, .chan none, .chan none, .chan none, .chan none, .chan none, .chan none, .chan none, .chan none, .chan none, .chan none, .chan none, .chan none, .chan none, .chan none, .chan none, .chan none, .chan none, .chan none, .chan none, .chan none, .chan none, .chan none, .chan none, .chan none, .chan none, .chan none, .chan none, .chan none, .chan none, .chan none, .chan none, .chan none, .chan none, .chan none, .chan none, .chan none, .chan none, .chan none, .chan none, .chan none, .chan none, .chan none, .chan none, .chan none, .chan none, .chan none, .chan none, .chan none, .chan none, .chan none, .chan none, .chan none, .chan none, .chan none, .chan none, .chan none, .chan none, .chan none, .chan none, .chan none, .chan none, .chan none, .chan none, .chan none, .chan none, .chan none, .chan none, .chan none, .chan none, .chan none, .chan none, .chan none, .chan none, .chan none, .chan none, .chan none, .chan none, .chan none, .chan none, .chan none, .chan none, .chan none, .chan none, .chan none, .chan none, .chan none, .chan none, .chan none, .chan none, .chan none, .chan none, .chan none, .chan none, .chan none, .chan none, .chan none, .chan none, .chan none, .chan none, .chan none, .chan none, .chan none, .chan none, .chan none, .chan none, .chan none, .chan none, .chan none, .chan none, .chan none, .chan none, .chan none, .chan none, .chan none, .chan none, .chan none, .chan none, .chan none, .chan none, .chan none, .chan none, .chan none, .chan none, .chan none, .chan none]) (n := m) rfl
    ⟨0, rfl, by omega, c, dk0, List.replicate n false, [], .slice none 0 0, [], Y0, W8.fresh hcb (by omega), rfl, rfl, by simp, Nat.le_refl _, .inl GV.nil, rfl, rfl⟩ ?_
  clear hcb
  rintro k a L₁ ⟨i, rfl, hi, c, s, T, V, u, Yh, Y, hW, hsd, hsc, hTn, hVi, hu, rfl, rfl⟩
  have hlL : SV 1 (bl c s T (Yh ++ (Y ++ L))) lv m (zs.map fun z => .int .i64 z) := hl.mono (fun p hp => by simp [hp])
  rcases Nat.lt_or_ge i m with him | him
  case inr =>
    have hbi : (!ileB (m : Int) (i : Nat)) = false := by rw [ileB_eq]; simp; omega
    repeat refine LS.seq ?_
    refine LS.region rfl ?_
    refine OS.pure rfl (fun _ => rfl) rfl ?_
    refine OS.pure rfl (fun _ => rfl) rfl ?_
    refine OS.pure rfl (e_len hlL rfl rfl rfl rfl rfl) rfl ?_
    refine OS.pure rfl (e_is (fun _ => rfl) (congrArg Value.bool hbi)) rfl ?_
    refine OS.nil ?_
    repeat refine LS.seq ?_
    refine LS.cond rfl (fun hc => by cases hc) (fun hc => ?_)
    refine LS.exit ?_
    repeat refine LS.seq ?_
    refine LS.region rfl ?_
    refine OS.pure rfl (fun _ => rfl) rfl ?_
    refine OS.nil ?_
    refine LS.ret ⟨_, fun _ _ => rfl, ?_⟩
    rfl
  have hbi : (!ileB (m : Int) (i : Nat)) = true := by rw [ileB_eq]; simp; omega
  repeat refine LS.seq ?_
  refine LS.region rfl ?_
  refine OS.pure rfl (fun _ => rfl) rfl ?_
  refine OS.pure rfl (fun _ => rfl) rfl ?_
  refine OS.pure rfl (e_len hlL rfl rfl rfl rfl rfl) rfl ?_
  refine OS.pure rfl (e_is (fun _ => rfl) (congrArg Value.bool hbi)) rfl ?_
  refine OS.nil ?_
  repeat refine LS.seq ?_
  refine LS.cond rfl (fun hc => ?_) (fun hc => by cases hc)
  refine LS.skip ?_
  repeat refine LS.seq ?_
  refine LS.block ?_
  obtain ⟨z, hz⟩ : ∃ z, zs[i]? = some z := ⟨_, List.getElem?_eq_getElem (by omega)⟩
  obtain ⟨r, hr⟩ : ∃ r, r = uns z % 9000 := ⟨_, rfl⟩
  refine LS.seq ?_
  refine LS.mid [1, 2, 7, 9, 10, 11, 12, 13, 14] (fun a L₁ => ∃ (v : Value) (e : Nat) (Y' : RL) (s' : Dk) (T' : List Bool) (V' : List (List Nat × List UInt8)), W8 c s' T' V' (400 * (i + 1)) ∧ s'.dead = false ∧ s'.cut = false ∧ T'.length = n ∧ ((e = 3 ∧ V' = V) ∨ (e = 0 ∧ ∃ x, V' = V ++ [x] ∧ v = .int .i64 (vid x : Nat))) ∧ L₁ = bl c s' T' (Yh ++ (Y' ++ L)) ∧
    a = [.chan none, lv, dv, .chan none, .chan none, .chan none, .chan none, .int .i64 (n : Nat), .chan none, ptr c.rm, ptr c.rD, u, .int .i64 (i : Nat), v, .int .i64 (e : Nat), .chan none, .chan none, .chan none, .chan none, .chan none, .chan none, .chan none, .chan none, .chan none, .chan none, .chan none, .chan none, .chan none, .chan none, .chan none, .chan none, .chan none, .chan none, .chan none, .chan none, .chan none, .chan none, .chan none, .chan none, .chan none, .chan none, .chan none, .chan none, .chan none, .chan none, .chan none, .chan none, .chan none, .chan none, .chan none, .chan none, .chan none, .chan none, .chan none, .chan none, .chan none, .chan none, .chan none, .chan none, .chan none, .chan none, .chan none, .chan none, .chan none, .chan none, .chan none, .chan none, .chan none, .chan none, .chan none, .chan none, .chan none, .chan none, .chan none, .chan none, .chan none, .chan none, .chan none, .chan none, .chan none, .chan none, .chan none, .chan none, .chan none, .chan none, .chan none, .chan none, .chan none, .chan none, .chan none, .chan none, .chan none, .chan none, .chan none, .chan none, .chan none, .chan none, .chan none, .chan none, .chan none, .chan none, .chan none, .chan none, .chan none, .chan none, .chan none, .chan none, .chan none, .chan none, .chan none, .chan none, .chan none, .chan none, .chan none, .chan none, .chan none, .chan none, .chan none, .chan none, .chan none, .chan none, .chan none, .chan none, .chan none, .chan none, .chan none, .chan none, .chan none, .chan none, .chan none, .chan none, .chan none, .chan none, .chan none, .chan none, .chan none, .chan none, .chan none, .chan none, .chan none, .chan none, .chan none, .chan none, .chan none, .chan none, .chan none, .chan none, .chan none, .chan none, .chan none, .chan none, .chan none, .chan none, .chan none, .chan none, .chan none, .chan none, .chan none, .chan none, .chan none, .chan none, .chan none, .chan none, .chan none, .chan none, .chan none, .chan none, .chan none, .chan none, .chan none, .chan none, .chan none, .chan none, .chan none, .chan none, .chan none, .chan none, .chan none, .chan none, .chan none, .chan none, .chan none, .chan none, .chan none, .chan none, .chan none, .chan none, .chan none, .chan none, .chan none, .chan none, .chan none, .chan none, .chan none, .chan none, .chan none, .chan none, .chan none, .chan none, .chan none, .chan none, .chan none]) ?_ ?_
  · obtain ⟨d, hdd⟩ : ∃ d, d = valB r (u8of (i : Nat)) := ⟨_, rfl⟩
    have hdl : d.length ≤ 1000000 := by rw [hdd, valB_len]; omega
    repeat refine LS.seq ?_
    refine LS.region rfl ?_
    refine OS.pure rfl (fun _ => rfl) rfl ?_
    refine OS.pure rfl (fun _ => rfl) rfl ?_
    refine OS.pure rfl (fun _ => rfl) rfl ?_
    refine OS.at1 (j := i) (hlL) ((show _ = some (Value.int .i64 z) by simp [hz])) rfl rfl rfl rfl rfl rfl (fun ra0 oa0 rowa0 csa0 ma0 ca0 ga0 => ⟨_, rfl, ?_⟩)
    refine OS.read rfl (e_loadm ma0 ca0 rfl rfl (part_one rfl ga0)) rfl ?_
    refine OS.pure rfl (e_uns rfl rfl rfl rfl) rfl ?_
    refine OS.pure rfl (e_is (e_rem (m := uns z) (n := 9000) rfl rfl rfl (by decide)) (congrArg (fun x : Nat => Value.int .u64 (x : Int)) hr.symm)) rfl ?_
    refine OS.pure rfl (e_conv (k' := .i64) rfl rfl rfl rfl (in_i64 (by omega) (by omega))) rfl ?_
    refine OS.pure rfl (fun _ => rfl) rfl ?_
    refine OS.pure rfl (e_conv8 rfl rfl rfl rfl) rfl ?_
    refine OS.call noGo rfl (fun _ => rfl) ((value_ct r (u8of (i : Nat)) (by omega)).mono ?_)
    rintro v L₁ ⟨rfl, rfl⟩
    rw [← hdd]
    refine ⟨_, rfl, ?_⟩
    refine OS.call noGo rfl (fun _ => rfl) ((Put_any (data := d) hW (by omega) hsd hdl rfl).mono ?_)
    rintro v L₁ ⟨Y3, hv⟩
    rcases hv with ⟨_, rfl, rfl⟩ | ⟨hf, hct, rfl, rfl⟩ | ⟨hf, hcc, _⟩
    · refine ⟨_, rfl, ?_⟩
      refine OS.sub (Sub.sums (A := bl c s T (Yh ++ ((Y3 ++ Y) ++ L))) fun f => by simp [bl, Z.fm] <;> omega) ?_
      refine OS.pure rfl (fun _ => rfl) rfl ?_
      refine OS.pure rfl (fun _ => rfl) rfl ?_
      refine OS.pure rfl (fun _ => rfl) rfl ?_
      refine OS.pure rfl (fun _ => rfl) rfl ?_
      refine OS.pure rfl (fun _ => rfl) rfl ?_
      refine OS.nil ?_
      exact ⟨.int .i64 0, 3, Y3 ++ Y, s, T, V, hW.mono (by omega), hsd, hsc, hTn, .inl ⟨rfl, rfl⟩, rfl, rfl⟩
    · have hWp := hW.put (data := d) (by omega) rfl hf hdl
      refine ⟨_, rfl, ?_⟩
      refine OS.sub (Sub.sums (A := bl c (dkW s T (need d.length) d) (Z.tkT T (need d.length)) (Yh ++ ((Y3 ++ Y) ++ L))) fun f => by simp [bl, Z.fm] <;> omega) ?_
      refine OS.pure rfl (fun _ => rfl) rfl ?_
      refine OS.pure rfl (fun _ => rfl) rfl ?_
      refine OS.pure rfl (fun _ => rfl) rfl ?_
      refine OS.pure rfl (fun _ => rfl) rfl ?_
      refine OS.pure rfl (fun _ => rfl) rfl ?_
      refine OS.nil ?_
      refine ⟨.int .i64 (Z.ff T : Nat), 0, Y3 ++ Y, _, _, _, hWp.mono (by omega), rfl, hsc, by rw [Z.tkT_len]; exact hTn, .inr ⟨rfl, (Z.tkL T (need d.length), d), rfl, ?_⟩, rfl, rfl⟩
      have : vid (Z.tkL T (need d.length), d) = Z.ff T := by
        unfold vid
        rw [tkL_head (by have := need_two d.length; omega)]; rfl
      rw [this]
    · rw [hsc] at hcc; cases hcc
  rintro a L₁ ⟨v, e, Y', s', T', V', hW', hsd', hsc', hTn', hev, rfl, rfl⟩
  clear hW hsd hsc hTn
  have hrD : ∀ (s : Dk) (T : List Bool) (X : RL), (c.rD, ARow.cells 78 [ptr c.rj, .int .i64 (c.base : Nat), ptr c.rm]) ∈ bl c s T X := fun s T X => List.mem_cons_self ..
  refine LS.seq ?_
  refine LS.mid [1, 2, 7, 9, 10, 11, 12] (fun a L₁ => ∃ (u : Value) (Yh Y : RL), V'.length ≤ i + 1 ∧ HV 3 c.rD u V'.length (idsV V') Yh ∧ L₁ = bl c s' T' (Yh ++ (Y ++ L)) ∧
    a = [.chan none, lv, dv, .chan none, .chan none, .chan none, .chan none, .int .i64 (n : Nat), .chan none, ptr c.rm, ptr c.rD, u, .int .i64 (i : Nat), .chan none, .chan none, .chan none, .chan none, .chan none, .chan none, .chan none, .chan none, .chan none, .chan none, .chan none, .chan none, .chan none, .chan none, .chan none, .chan none, .chan none, .chan none, .chan none, .chan none, .chan none, .chan none, .chan none, .chan none, .chan none, .chan none, .chan none, .chan none, .chan none, .chan none, .chan none, .chan none, .chan none, .chan none, .chan none, .chan none, .chan none, .chan none, .chan none, .chan none, .chan none, .chan none, .chan none, .chan none, .chan none, .chan none, .chan none, .chan none, .chan none, .chan none, .chan none, .chan none, .chan none, .chan none, .chan none, .chan none, .chan none, .chan none, .chan none, .chan none, .chan none, .chan none, .chan none, .chan none, .chan none, .chan none, .chan none, .chan none, .chan none, .chan none, .chan none, .chan none, .chan none, .chan none, .chan none, .chan none, .chan none, .chan none, .chan none, .chan none, .chan none, .chan none, .chan none, .chan none, .chan none, .chan none, .chan none, .chan none, .chan none, .chan none, .chan none, .chan none, .chan none, .chan none, .chan none, .chan none, .chan none, .chan none, .chan none, .chan none, .chan none, .chan none, .chan none, .chan none, .chan none, .chan none, .chan none, .chan none, .chan none, .chan none, .chan none, .chan none, .chan none, .chan none, .chan none, .chan none, .chan none, .chan none, .chan none, .chan none, .chan none, .chan none, .chan none, .chan none, .chan none, .chan none, .chan none, .chan none, .chan none, .chan none, .chan none, .chan none, .chan none, .chan none, .chan none, .chan none, .chan none, .chan none, .chan none, .chan none, .chan none, .chan none, .chan none, .chan none, .chan none, .chan none, .chan none, .chan none, .chan none, .chan none, .chan none, .chan none, .chan none, .chan none, .chan none, .chan none, .chan none, .chan none, .chan none, .chan none, .chan none, .chan none, .chan none, .chan none, .chan none, .chan none, .chan none, .chan none, .chan none, .chan none, .chan none, .chan none, .chan none, .chan none, .chan none, .chan none, .chan none, .chan none, .chan none, .chan none, .chan none, .chan none, .chan none, .chan none, .chan none, .chan none, .chan none, .chan none, .chan none]) ?_ ?_
  · rcases hev with ⟨rfl, rfl⟩ | ⟨rfl, x, rfl, rfl⟩
    · repeat refine LS.seq ?_
      refine LS.region rfl ?_
      refine OS.pure rfl (fun _ => rfl) rfl ?_
      refine OS.pure rfl (fun _ => rfl) rfl ?_
      refine OS.nil ?_
      refine LS.cond rfl (fun hc => by cases hc) (fun hc => ?_)
      refine LS.skip ?_
      exact ⟨u, Yh, Y', by omega, hu, rfl, rfl⟩
    · repeat refine LS.seq ?_
      refine LS.region rfl ?_
      refine OS.pure rfl (fun _ => rfl) rfl ?_
      refine OS.pure rfl (fun _ => rfl) rfl ?_
      refine OS.nil ?_
      refine LS.cond rfl (fun hc => ?_) (fun hc => by cases hc)
      refine LS.sub (Sub.sums (A := Yh ++ (bl c s' T' (Y' ++ L))) fun f => by simp [bl, Z.fm] <;> omega) ?_
      repeat refine LS.seq ?_
      refine LS.region rfl ?_
      refine OS.pure rfl (fun _ => rfl) rfl ?_
      refine OS.pure rfl (fun _ => rfl) rfl ?_
      refine OS.fresh rfl (e_new (fun _ => rfl) rfl) (fun _ => rfl) (fun r2 => ?_)
      refine OS.turns rfl (e_appendHV [(r2, _)] (bl c s' T' (Y' ++ L)) (e := 3) (bts := 8) (m := 1) hu (show (c.rD, ARow.cells 78 [ptr c.rj, .int .i64 (c.base : Nat), ptr c.rm]) ∈ _ from List.mem_append_right _ (List.mem_append_right _ (hrD s' T' (Y' ++ L)))) rfl (SV.row (sz := 1) (n := 1) (List.mem_cons_self ..) rfl) rfl rfl rfl rfl (by omega) (by omega)) (fun u2 L₁ hR => ?_)
      obtain ⟨Yh', hu', rfl⟩ := hR
      have hu2 : HV 3 c.rD u2 (V ++ [x]).length (idsV (V ++ [x])) Yh' := by
        rw [List.length_append, show idsV (V ++ [x]) = idsV V ++ [Value.int .i64 (vid x : Nat)] by simp [idsV]]; exact hu'
      refine ⟨_, rfl, ?_⟩
      refine OS.sub (Sub.sums2 [(r2, .cells 3 [Value.int .i64 (vid x : Nat)])] (A := bl c s' T' (Yh' ++ (Y' ++ L))) fun f => by simp [bl, Z.fm] <;> omega) ?_
      refine OS.pure rfl (fun _ => rfl) rfl ?_
      refine OS.nil ?_
      exact ⟨u2, Yh', Y', by simp; omega, hu2, rfl, rfl⟩
  clear hev hu
  rintro a L₁ ⟨u, Yh, Y, hVi', hu, rfl, rfl⟩
  have hdL : SV 1 (bl c s' T' (Yh ++ (Y ++ L))) dv md (ds.map fun z => .int .i64 z) := hd.mono (fun p hp => by simp [hp])
  have huL : SV 1 (bl c s' T' (Yh ++ (Y ++ L))) u V'.length (idsV V') := hu.sv (fun p hp => by simp [hp]) (hrD ..) rfl
  refine LS.seq ?_
  refine LS.mid [1, 2, 7, 9, 10, 11, 12] (fun a L₁ => ∃ (T : List Bool) (V : List (List Nat × List UInt8)) (u : Value) (Yh Y : RL), W8 c s' T V (400 * (i + 1)) ∧ T.length = n ∧ V.length ≤ i + 1 ∧ HV 3 c.rD u V.length (idsV V) Yh ∧ L₁ = bl c s' T (Yh ++ (Y ++ L)) ∧
    a = [.chan none, lv, dv, .chan none, .chan none, .chan none, .chan none, .int .i64 (n : Nat), .chan none, ptr c.rm, ptr c.rD, u, .int .i64 (i : Nat), .chan none, .chan none, .chan none, .chan none, .chan none, .chan none, .chan none, .chan none, .chan none, .chan none, .chan none, .chan none, .chan none, .chan none, .chan none, .chan none, .chan none, .chan none, .chan none, .chan none, .chan none, .chan none, .chan none, .chan none, .chan none, .chan none, .chan none, .chan none, .chan none, .chan none, .chan none, .chan none, .chan none, .chan none, .chan none, .chan none, .chan none, .chan none, .chan none, .chan none, .chan none, .chan none, .chan none, .chan none, .chan none, .chan none, .chan none, .chan none, .chan none, .chan none, .chan none, .chan none, .chan none, .chan none, .chan none, .chan none, .chan none, .chan none, .chan none, .chan none, .chan none, .chan none, .chan none, .chan none, .chan none, .chan none, .chan none, .chan none, .chan none, .chan none, .chan none, .chan none, .chan none, .chan none, .chan none, .chan none, .chan none, .chan none, .chan none, .chan none, .chan none, .chan none, .chan none, .chan none, .chan none, .chan none, .chan none, .chan none, .chan none, .chan none, .chan none, .chan none, .chan none, .chan none, .chan none, .chan none, .chan none, .chan none, .chan none, .chan none, .chan none, .chan none, .chan none, .chan none, .chan none, .chan none, .chan none, .chan none, .chan none, .chan none, .chan none, .chan none, .chan none, .chan none, .chan none, .chan none, .chan none, .chan none, .chan none, .chan none, .chan none, .chan none, .chan none, .chan none, .chan none, .chan none, .chan none, .chan none, .chan none, .chan none, .chan none, .chan none, .chan none, .chan none, .chan none, .chan none, .chan none, .chan none, .chan none, .chan none, .chan none, .chan none, .chan none, .chan none, .chan none, .chan none, .chan none, .chan none, .chan none, .chan none, .chan none, .chan none, .chan none, .chan none, .chan none, .chan none, .chan none, .chan none, .chan none, .chan none, .chan none, .chan none, .chan none, .chan none, .chan none, .chan none, .chan none, .chan none, .chan none, .chan none, .chan none, .chan none, .chan none, .chan none, .chan none, .chan none, .chan none, .chan none, .chan none, .chan none, .chan none, .chan none, .chan none, .chan none, .chan none, .chan none, .chan none, .chan none, .chan none]) ?_ ?_
  · rcases Nat.lt_or_ge i md with hid | hid
    case inr =>
      have hb3 : (!ileB (md : Int) (i : Nat)) = false := by rw [ileB_eq]; simp; omega
      repeat refine LS.seq ?_
      refine LS.region rfl ?_
      refine OS.pure rfl (fun _ => rfl) rfl ?_
      refine OS.pure rfl (fun _ => rfl) rfl ?_
      refine OS.pure rfl (e_len hdL rfl rfl rfl rfl rfl) rfl ?_
      refine OS.pure rfl (e_is (fun _ => rfl) (congrArg Value.bool hb3)) rfl ?_
      refine OS.pure rfl (fun _ => rfl) rfl ?_
      refine OS.skip rfl rfl ?_
      refine OS.skip rfl rfl ?_
      refine OS.skip rfl rfl ?_
      refine OS.pure rfl (fun _ => rfl) rfl ?_
      refine OS.pure rfl (fun _ => rfl) rfl ?_
      refine OS.skip rfl rfl ?_
      refine OS.skip rfl rfl ?_
      refine OS.skip rfl rfl ?_
      refine OS.skip rfl rfl ?_
      refine OS.skip rfl rfl ?_
      refine OS.skip rfl rfl ?_
      refine OS.pure rfl (fun _ => rfl) rfl ?_
      refine OS.nil ?_
      refine LS.cond rfl (fun hc => by cases hc) (fun hc => ?_)
      refine LS.skip ?_
      exact ⟨T', V', u, Yh, Y, hW', hTn', hVi', hu, rfl, rfl⟩
    have hb3 : (!ileB (md : Int) (i : Nat)) = true := by rw [ileB_eq]; simp; omega
    rcases Nat.eq_zero_or_pos V'.length with hv0 | hv0
    · have hb4 : (!ileB (V'.length : Int) 0) = false := by rw [hv0]; rfl
      repeat refine LS.seq ?_
      refine LS.region rfl ?_
      refine OS.pure rfl (fun _ => rfl) rfl ?_
      refine OS.pure rfl (fun _ => rfl) rfl ?_
      refine OS.pure rfl (e_len hdL rfl rfl rfl rfl rfl) rfl ?_
      refine OS.pure rfl (e_is (fun _ => rfl) (congrArg Value.bool hb3)) rfl ?_
      refine OS.pure rfl (fun _ => rfl) rfl ?_
      refine OS.pure rfl (fun _ => rfl) rfl ?_
      refine OS.pure rfl (e_len huL rfl rfl rfl rfl rfl) rfl ?_
      refine OS.pure rfl (e_is (fun _ => rfl) (congrArg Value.bool hb4)) rfl ?_
      refine OS.pure rfl (fun _ => rfl) rfl ?_
      refine OS.pure rfl (fun _ => rfl) rfl ?_
      refine OS.skip rfl rfl ?_
      refine OS.skip rfl rfl ?_
      refine OS.skip rfl rfl ?_
      refine OS.skip rfl rfl ?_
      refine OS.skip rfl rfl ?_
      refine OS.skip rfl rfl ?_
      refine OS.pure rfl (fun _ => rfl) rfl ?_
      refine OS.nil ?_
      refine LS.cond rfl (fun hc => by cases hc) (fun hc => ?_)
      refine LS.skip ?_
      exact ⟨T', V', u, Yh, Y, hW', hTn', hVi', hu, rfl, rfl⟩
    have hb4 : (!ileB (V'.length : Int) 0) = true := by rw [ileB_eq, Bool.not_eq_true', decide_eq_false_iff_not]; omega
    obtain ⟨dz, hdz⟩ : ∃ z, ds[i]? = some z := ⟨_, List.getElem?_eq_getElem (by omega)⟩
    repeat refine LS.seq ?_
    refine LS.region rfl ?_
    refine OS.pure rfl (fun _ => rfl) rfl ?_
    refine OS.pure rfl (fun _ => rfl) rfl ?_
    refine OS.pure rfl (e_len hdL rfl rfl rfl rfl rfl) rfl ?_
    refine OS.pure rfl (e_is (fun _ => rfl) (congrArg Value.bool hb3)) rfl ?_
    refine OS.pure rfl (fun _ => rfl) rfl ?_
    refine OS.pure rfl (fun _ => rfl) rfl ?_
    refine OS.pure rfl (e_len huL rfl rfl rfl rfl rfl) rfl ?_
    refine OS.pure rfl (e_is (fun _ => rfl) (congrArg Value.bool hb4)) rfl ?_
    refine OS.pure rfl (fun _ => rfl) rfl ?_
    refine OS.pure rfl (fun _ => rfl) rfl ?_
    refine OS.pure rfl (fun _ => rfl) rfl ?_
    refine OS.pure rfl (fun _ => rfl) rfl ?_
    refine OS.at1 (j := i) (hdL) ((show _ = some (Value.int .i64 dz) by simp [hdz])) rfl rfl rfl rfl rfl rfl (fun ra0 oa0 rowa0 csa0 ma0 ca0 ga0 => ⟨_, rfl, ?_⟩)
    refine OS.read rfl (e_loadm ma0 ca0 rfl rfl (part_one rfl ga0)) rfl ?_
    refine OS.pure rfl (fun _ => rfl) rfl ?_
    by_cases h3 : ieqB (dz.tmod 3) 0 = true
    case neg =>
      have h3 : ieqB (dz.tmod 3) 0 = false := by simpa using h3
      refine OS.pure rfl (e_is (fun _ => rfl) (congrArg Value.bool h3)) rfl ?_
      refine OS.pure rfl (fun _ => rfl) rfl ?_
      refine OS.nil ?_
      refine LS.cond rfl (fun hc => by cases hc) (fun hc => ?_)
      refine LS.skip ?_
      exact ⟨T', V', u, Yh, Y, hW', hTn', hVi', hu, rfl, rfl⟩
    refine OS.pure rfl (e_is (fun _ => rfl) (congrArg Value.bool h3)) rfl ?_
    refine OS.pure rfl (fun _ => rfl) rfl ?_
    refine OS.nil ?_
    refine LS.cond rfl (fun hc => ?_) (fun hc => by cases hc)
    obtain ⟨q, hq⟩ : ∃ q, q = uns dz % V'.length := ⟨_, rfl⟩
    have hql : q < V'.length := by rw [hq]; exact Nat.mod_lt _ hv0
    repeat refine LS.seq ?_
    refine LS.region rfl ?_
    refine OS.pure rfl (fun _ => rfl) rfl ?_
    refine OS.pure rfl (fun _ => rfl) rfl ?_
    refine OS.at1 (j := i) (hdL) ((show _ = some (Value.int .i64 dz) by simp [hdz])) rfl rfl rfl rfl rfl rfl (fun ra0 oa0 rowa0 csa0 ma0 ca0 ga0 => ⟨_, rfl, ?_⟩)
    refine OS.read rfl (e_loadm ma0 ca0 rfl rfl (part_one rfl ga0)) rfl ?_
    refine OS.pure rfl (e_uns rfl rfl rfl rfl) rfl ?_
    refine OS.pure rfl (fun _ => rfl) rfl ?_
    refine OS.pure rfl (e_len huL rfl rfl rfl rfl rfl) rfl ?_
    refine OS.pure rfl (e_conv (k' := .u64) rfl rfl rfl rfl (in_u64 (by omega) (by omega))) rfl ?_
    refine OS.pure rfl (e_is (e_rem (m := uns dz) (n := V'.length) rfl rfl rfl (by omega)) (congrArg (fun x : Nat => Value.int .u64 (x : Int)) hq.symm)) rfl ?_
    refine OS.pure rfl (e_conv (k' := .i64) rfl rfl rfl rfl (in_i64 (by omega) (by omega))) rfl ?_
    refine OS.pure rfl (fun _ => rfl) rfl ?_
    refine OS.nil ?_
    obtain ⟨A, B, x, hV', hA⟩ : ∃ A B x, V' = A ++ x :: B ∧ A.length = q := ⟨V'.take q, V'.drop (q + 1), V'[q], by rw [← List.drop_eq_getElem_cons, List.take_append_drop], by simp; omega⟩
    subst hV'
    have hval := hW'.val (v := x) (by simp)
    have hx0 := hval.vid
    have htk := hW'.tk (v := x) (by simp) (List.mem_of_getElem? hx0)
    have hWd := hW'.drop
    have hAB : (A ++ x :: B).length = A.length + 1 + B.length := by simp; omega
    repeat refine LS.seq ?_
    refine LS.region rfl ?_
    refine OS.pure rfl (fun _ => rfl) rfl ?_
    refine OS.pure rfl (fun _ => rfl) rfl ?_
    refine OS.pure rfl (fun _ => rfl) rfl ?_
    refine OS.at1 (j := q) (huL) ((show _ = some (Value.int .i64 (vid x : Nat)) by simp [← hA])) rfl rfl rfl rfl rfl rfl (fun ra0 oa0 rowa0 csa0 ma0 ca0 ga0 => ⟨_, rfl, ?_⟩)
    refine OS.read rfl (e_loadm ma0 ca0 rfl rfl (part_one rfl ga0)) rfl ?_
    refine OS.call noGo rfl (fun _ => rfl) ((Drop_ct hW'.ok hsd' hval hx0 htk).mono ?_)
    rintro v L₁ ⟨rfl, rfl⟩
    refine ⟨_, rfl, ?_⟩
    refine OS.pure rfl (fun _ => rfl) rfl ?_
    refine OS.nil ?_
    refine LS.cond rfl (fun hc => by cases hc) (fun hc => ?_)
    refine LS.skip ?_
    obtain ⟨ru, rfl, hul, rfl⟩ : ∃ ru, u = .slice (some ⟨ru, 0, none⟩) (A ++ x :: B).length openCap ∧ (idsV (A ++ x :: B)).length = (A ++ x :: B).length * 1 ∧ Yh = [(ru, .cells 3 (idsV (A ++ x :: B)))] := by
      rcases hu with (⟨_, h, _⟩ | ⟨ru, h1, h2, h3⟩) | ⟨h, _⟩
      · omega
      · exact ⟨ru, h1, h2, h3⟩
      · omega
    obtain ⟨Lr, hLr⟩ : ∃ Lr, Lr = bl c s' (Z.giveL T' x.1) ([(ru, ARow.cells 3 (idsV (A ++ x :: B)))] ++ (Y ++ L)) := ⟨_, rfl⟩
    have hmr : (ru, ARow.cells 3 (idsV (A ++ x :: B))) ∈ Lr := by rw [hLr]; simp
    have hmD : (c.rD, ARow.cells 78 [ptr c.rj, .int .i64 (c.base : Nat), ptr c.rm]) ∈ Lr := by rw [hLr]; exact List.mem_cons_self ..
    obtain ⟨ir, hir⟩ := List.mem_iff_getElem?.1 hmr
    have hidl : (idsV (A ++ x :: B)).length = A.length + 1 + B.length := by rw [hul, Nat.mul_one, hAB]
    have hc1 : cut (idsV (A ++ x :: B)) (0 + 0 * 1) ((q - 0) * 1) = some (idsV A) := by
      rw [cut_of (by omega), show 0 + 0 * 1 = 0 by omega, List.drop_zero, show (q - 0) * 1 = (idsV A).length by simp [hA]]
      simp [idsV]
    have hc2 : cut (idsV (A ++ x :: B)) (0 + (q + 1) * 1) (((A ++ x :: B).length - (q + 1)) * 1) = some (idsV B) := by
      rw [cut_of (by omega), show ((A ++ x :: B).length - (q + 1)) * 1 = (idsV B).length by simp; omega]
      have e : idsV (A ++ x :: B) = (idsV A ++ [Value.int .i64 (vid x : Nat)]) ++ idsV B := by simp [idsV]
      rw [e, List.drop_left' (by simp; omega), List.take_length]
    have hs1 : SV 1 Lr (.slice (some ⟨ru, 0 + 0 * 1, none⟩) (q - 0) openCap) (q - 0) (idsV A) := .inr ⟨ru, _, _, _, _, rfl, hmr, rfl, hc1⟩
    have hs2 : SV 1 Lr (.slice (some ⟨ru, 0 + (q + 1) * 1, none⟩) ((A ++ x :: B).length - (q + 1)) openCap) ((A ++ x :: B).length - (q + 1)) (idsV B) := .inr ⟨ru, _, _, _, _, rfl, hmr, rfl, hc2⟩
    refine LS.sub (L' := Lr) (by rw [hLr]; exact Sub.self) ?_
    repeat refine LS.seq ?_
    refine LS.drawn noGo mixed [(0, false), (1, false), (2, false), (3, false), (5, false), (6, false), (7, false), (8, false), (4, true), (9, true), (10, false)] rfl rfl (by kernel_rfl) ?_
    refine ODS.void (r := c.rD) (off := 0) rfl rfl rfl rfl ?_
    refine ODS.pure rfl rfl (fun _ => rfl) rfl ?_
    refine ODS.pure rfl rfl (fun _ => rfl) rfl ?_
    refine ODS.read rfl rfl (e_slice ir (l := 0) (u := q) (sz := 1) rfl rfl rfl rfl rfl bound_nat rfl rfl (by omega) (by omega) hir) rfl ?_
    refine ODS.pure rfl rfl (fun _ => rfl) rfl ?_
    refine ODS.pure rfl rfl (fun _ => rfl) rfl ?_
    refine ODS.pure rfl rfl (e_is (e_add (k := .i64) (m := ((q : Nat) : Int)) (n := 1) rfl rfl rfl (in_i64 (by omega) (by omega))) (congrArg (Value.int .i64) (show ((q : Nat) : Int) + 1 = ((q + 1 : Nat) : Int) by omega))) rfl ?_
    refine ODS.read rfl rfl (e_slice ir (l := q + 1) (u := (A ++ x :: B).length) (sz := 1) rfl rfl rfl rfl bound_nat rfl rfl rfl (Nat.le_refl _) (by omega) hir) rfl ?_
    refine ODS.turns rfl rfl (e_appendHV [] Lr (e := 3) (bts := 8) (Y := []) (r0 := c.rD) (n := 0) (cs := []) (.inr ⟨rfl, rfl, rfl, rfl⟩) hmD rfl hs1 (int_one _) rfl rfl rfl (by omega) (by omega)) (fun u1 L₁ hR => ?_)
    obtain ⟨Y1, hu1, rfl⟩ := hR
    obtain ⟨ir2, hir2⟩ := List.mem_iff_getElem?.1 (show (ru, ARow.cells 3 (idsV (A ++ x :: B))) ∈ Y1 ++ ([] ++ Lr) from List.mem_append_right _ hmr)
    refine ⟨_, rfl, Keep.cons rfl (e_slice ir2 (l := q + 1) (u := (A ++ x :: B).length) (sz := 1) rfl rfl rfl rfl bound_nat rfl rfl rfl (Nat.le_refl _) (by omega) hir2) (Keep.gone rfl Keep.nil), ?_⟩
    refine ODS.turns rfl rfl (e_appendHV [] Lr (e := 3) (bts := 8) hu1 (List.mem_append_right _ (List.mem_append_right _ hmD)) rfl (hs2.mono (fun p hp => List.mem_append_right _ (List.mem_append_right _ hp))) (int_one _) rfl rfl rfl (by omega) (by omega)) (fun u2 L₁ hR => ?_)
    obtain ⟨Y2, hu2, rfl⟩ := hR
    refine ⟨_, rfl, Keep.gone rfl (Keep.gone rfl Keep.nil), ?_⟩
    refine ODS.pure rfl rfl (fun _ => rfl) rfl ?_
    refine ODS.sub (Sub.sums (A := bl c s' (Z.giveL T' x.1) (Y2 ++ (([(ru, ARow.cells 3 (idsV (A ++ x :: B)))] ++ Y) ++ L))) fun f => by rw [hLr]; simp [bl, Z.fm] <;> omega) ?_
    refine ODS.nil ?_
    have hu3 : HV 3 c.rD u2 (A ++ B).length (idsV (A ++ B)) Y2 := by
      have e1 : (A ++ B).length = 0 + (q - 0) + ((A ++ x :: B).length - (q + 1)) := by rw [List.length_append]; omega
      have e2 : idsV (A ++ B) = ([] ++ idsV A) ++ idsV B := by simp [idsV]
      rw [e1, e2]; exact hu2
    exact ⟨_, A ++ B, u2, Y2, _, hWd, by rw [Z.giveL_len]; exact hTn', by rw [List.length_append]; omega, hu3, rfl, rfl⟩
  rintro a L₁ ⟨T, V, u, Yh, Y, hW, hTn, hVi, hu, rfl, rfl⟩
  obtain ⟨W, hWW⟩ : ∃ W, W = Yh ++ (Y ++ L) := ⟨_, rfl⟩
  have huS : ∀ X : RL, SV 1 (bl c s' T (X ++ W)) u V.length (idsV V) := fun X => hu.sv (fun p hp => by rw [hWW]; simp [hp]) (hrD ..) rfl
  have hbase : ∀ x, x < n → x ∉ flt (V.take 0) → (List.replicate n 0)[x]? = some 0 := fun x hx _ => by simp [hx]
  rw [← hWW]
  repeat refine LS.seq ?_
  refine LS.region rfl ?_
  refine OS.pure rfl (fun _ => rfl) rfl ?_
  refine OS.fresh rfl (e_make (l := n) (c := n) rfl rfl rfl makeT_ints (Nat.le_refl _) (by omega) (by omega)) (fun _ => rfl) (fun ro => ?_)
  rw [repL_one, show List.replicate n (Value.int .i64 0) = ints (List.replicate n 0) by simp]
  refine OS.pure rfl (fun _ => rfl) rfl ?_
  refine OS.sub (Sub.pulls [6, 6, 6, 6, 6, 6] rfl) ?_
  refine OS.nil ?_
  repeat refine LS.seq ?_
  refine LS.region rfl ?_
  refine OS.pure rfl (fun _ => rfl) rfl ?_
  refine OS.nil ?_
  repeat refine LS.seq ?_
  refine LS.region rfl ?_
  refine OS.pure rfl (fun _ => rfl) rfl ?_
  refine OS.nil ?_
  refine LS.mid [1, 2, 7, 9, 10, 11, 12, 17] (fun a L₁ => ∃ (O : List Nat), L₁ = bl c s' T ((ro, .cells 3 (ints O)) :: W) ∧
    a = [.chan none, lv, dv, .chan none, .chan none, .chan none, .chan none, .int .i64 (n : Nat), .chan none, ptr c.rm, ptr c.rD, u, .int .i64 (i : Nat), .chan none, .chan none, .chan none, .chan none, .int .i64 ((flt V).length : Nat), .chan none, .chan none, .chan none, .chan none, .chan none, .chan none, .chan none, .chan none, .chan none, .chan none, .chan none, .chan none, .chan none, .chan none, .chan none, .chan none, .chan none, .chan none, .chan none, .chan none, .chan none, .chan none, .chan none, .chan none, .chan none, .chan none, .chan none, .chan none, .chan none, .chan none, .chan none, .chan none, .chan none, .chan none, .chan none, .chan none, .chan none, .chan none, .chan none, .chan none, .chan none, .chan none, .chan none, .chan none, .chan none, .chan none, .chan none, .chan none, .chan none, .chan none, .chan none, .chan none, .chan none, .chan none, .chan none, .chan none, .chan none, .chan none, .chan none, .chan none, .chan none, .chan none, .chan none, .chan none, .chan none, .chan none, .chan none, .chan none, .chan none, .chan none, .chan none, .chan none, .chan none, .chan none, .chan none, .chan none, .chan none, .chan none, .chan none, .chan none, .chan none, .chan none, .chan none, .chan none, .chan none, .chan none, .chan none, .chan none, .chan none, .chan none, .chan none, .chan none, .chan none, .chan none, .chan none, .chan none, .chan none, .chan none, .chan none, .chan none, .chan none, .chan none, .chan none, .chan none, .chan none, .chan none, .chan none, .chan none, .chan none, .chan none, .chan none, .chan none, .chan none, .chan none, .chan none, .chan none, .chan none, .chan none, .chan none, .chan none, .chan none, .chan none, .chan none, .chan none, .chan none, .chan none, .chan none, .chan none, .chan none, .chan none, .chan none, .chan none, .chan none, .chan none, .chan none, .chan none, .chan none, .chan none, .chan none, .chan none, .chan none, .chan none, .chan none, .chan none, .chan none, .chan none, .chan none, .chan none, .chan none, .chan none, .chan none, .chan none, .chan none, .chan none, .chan none, .chan none, .chan none, .chan none, .chan none, .chan none, .chan none, .chan none, .chan none, .chan none, .chan none, .chan none, .chan none, .chan none, .chan none, .chan none, .chan none, .chan none, .chan none, .chan none, .chan none, .chan none, .chan none, .chan none, .chan none, .chan none, .chan none, .chan none, .chan none, .chan none]) ?_ ?_
  · refine LS.block ?_
    refine LS.loopJ [1, 2, 7, 9, 10, 11, 12, 16, 17, 18] (fun p a L₁ => ∃ (k : Nat) (O : List Nat), p = V.length - k ∧ k ≤ V.length ∧ O.length = n ∧ (∀ x, x < n → x ∉ flt (V.take k) → O[x]? = some 0) ∧ L₁ = bl c s' T ((ro, .cells 3 (ints O)) :: W) ∧
      a = [.chan none, lv, dv, .chan none, .chan none, .chan none, .chan none, .int .i64 (n : Nat), .chan none, ptr c.rm, ptr c.rD, u, .int .i64 (i : Nat), .chan none, .chan none, .chan none, .slice (some ⟨ro, 0, none⟩) n n, .int .i64 ((flt (V.take k)).length : Nat), .int .i64 (k : Nat), .chan none, .chan none, .chan none, .chan none, .chan none, .chan none, .chan none, .chan none, .chan none, .chan none, .chan none, .chan none, .chan none, .chan none, .chan none, .chan none, .chan none, .chan none, .chan none, .chan none, .chan none, .chan none, .chan none, .chan none, .chan none, .chan none, .chan none, .chan none, .chan none, .chan none, .chan none, .chan none, .chan none, .chan none, .chan none, .chan none, .chan none, .chan none, .chan none, .chan none, .chan none, .chan none, .chan none, .chan none, .chan none, .chan none, .chan none, .chan none, .chan none, .chan none, .chan none, .chan none, .chan none, .chan none, .chan none, .chan none, .chan none, .chan none, .chan none, .chan none, .chan none, .chan none, .chan none, .chan none, .chan none, .chan none, .chan none, .chan none, .chan none, .chan none, .chan none, .chan none, .chan none, .chan none, .chan none, .chan none, .chan none, .chan none, .chan none, .chan none, .chan none, .chan none, .chan none, .chan none, .chan none, .chan none, .chan none, .chan none, .chan none, .chan none, .chan none, .chan none, .chan none, .chan none, .chan none, .chan none, .chan none, .chan none, .chan none, .chan none, .chan none, .chan none, .chan none, .chan none, .chan none, .chan none, .chan none, .chan none, .chan none, .chan none, .chan none, .chan none, .chan none, .chan none, .chan none, .chan none, .chan none, .chan none, .chan none, .chan none, .chan none, .chan none, .chan none, .chan none, .chan none, .chan none, .chan none, .chan none, .chan none, .chan none, .chan none, .chan none, .chan none, .chan none, .chan none, .chan none, .chan none, .chan none, .chan none, .chan none, .chan none, .chan none, .chan none, .chan none, .chan none, .chan none, .chan none, .chan none, .chan none, .chan none, .chan none, .chan none, .chan none, .chan none, .chan none, .chan none, .chan none, .chan none, .chan none, .chan none, .chan none, .chan none, .chan none, .chan none, .chan none, .chan none, .chan none, .chan none, .chan none, .chan none, .chan none, .chan none, .chan none, .chan none, .chan none, .chan none, .chan none, .chan none, .chan none, .chan none, .chan none, .chan none, .chan none]) (n := V.length) rfl
      ⟨0, List.replicate n 0, rfl, by omega, by simp, hbase, rfl, rfl⟩ ?_
    rintro p a L₁ ⟨k, O, rfl, hk, hO, hfree, rfl, rfl⟩
    repeat refine LS.seq ?_
    refine LS.region rfl ?_
    refine OS.pure rfl (fun _ => rfl) rfl ?_
    refine OS.pure rfl (fun _ => rfl) rfl ?_
    refine OS.pure rfl (e_len (huS []) rfl rfl rfl rfl rfl) rfl ?_
    refine OS.pure rfl (fun _ => rfl) rfl ?_
    refine OS.nil ?_
    repeat refine LS.seq ?_
    refine LS.cond rfl (fun hc => ?_) (fun hc => ?_)
    · have hc : (k : Int) < V.length := lt_of hc
      have hkV : k < V.length := by omega
      obtain ⟨x, hx⟩ : ∃ x, V[k]? = some x := ⟨_, List.getElem?_eq_getElem hkV⟩
      have hxm : x ∈ V := List.mem_of_getElem? hx
      have hval := hW.val hxm
      have hx0 := hval.vid
      have htk := hW.tk hxm (List.mem_of_getElem? hx0)
      have hsplit : flt (V.take (k + 1)) = flt (V.take k) ++ x.1 := by
        unfold flt; rw [List.take_add_one, hx]; simp
      have hnd : (flt (V.take k) ++ x.1).Nodup := by
        rw [← hsplit]
        have h1 := hW.h.nd
        rw [← List.take_append_drop (k + 1) V, List.flatMap_append] at h1
        exact (List.nodup_append.1 h1).1
      have hnl := need_le (n := x.2.length) (by have := hval.dl; omega)
      have hxl := hval.len
      have hcntV : (flt (V.take (k + 1))).length ≤ n := by
        have h1 := hW.h.cnt
        have h2 : (flt V).length = (flt (V.take (k + 1))).length + (flt (V.drop (k + 1))).length := by
          rw [← List.length_append]; unfold flt; rw [← List.flatMap_append, List.take_append_drop]
        have h3 : (List.flatMap (fun x => x.fst) V).length = (flt V).length := rfl
        omega
      rw [hsplit, List.length_append] at hcntV
      refine LS.skip ?_
      refine LS.seq ?_
      refine LS.mid [1, 2, 7, 9, 10, 11, 12, 16, 17, 18] (fun a L₁ => ∃ (O : List Nat), O.length = n ∧ (∀ y, y < n → y ∉ flt (V.take (k + 1)) → O[y]? = some 0) ∧ L₁ = bl c s' T ((ro, .cells 3 (ints O)) :: W) ∧
        a = [.chan none, lv, dv, .chan none, .chan none, .chan none, .chan none, .int .i64 (n : Nat), .chan none, ptr c.rm, ptr c.rD, u, .int .i64 (i : Nat), .chan none, .chan none, .chan none, .slice (some ⟨ro, 0, none⟩) n n, .int .i64 ((flt (V.take (k + 1))).length : Nat), .int .i64 (k : Nat), .chan none, .chan none, .chan none, .chan none, .chan none, .chan none, .chan none, .chan none, .chan none, .chan none, .chan none, .chan none, .chan none, .chan none, .chan none, .chan none, .chan none, .chan none, .chan none, .chan none, .chan none, .chan none, .chan none, .chan none, .chan none, .chan none, .chan none, .chan none, .chan none, .chan none, .chan none, .chan none, .chan none, .chan none, .chan none, .chan none, .chan none, .chan none, .chan none, .chan none, .chan none, .chan none, .chan none, .chan none, .chan none, .chan none, .chan none, .chan none, .chan none, .chan none, .chan none, .chan none, .chan none, .chan none, .chan none, .chan none, .chan none, .chan none, .chan none, .chan none, .chan none, .chan none, .chan none, .chan none, .chan none, .chan none, .chan none, .chan none, .chan none, .chan none, .chan none, .chan none, .chan none, .chan none, .chan none, .chan none, .chan none, .chan none, .chan none, .chan none, .chan none, .chan none, .chan none, .chan none, .chan none, .chan none, .chan none, .chan none, .chan none, .chan none, .chan none, .chan none, .chan none, .chan none, .chan none, .chan none, .chan none, .chan none, .chan none, .chan none, .chan none, .chan none, .chan none, .chan none, .chan none, .chan none, .chan none, .chan none, .chan none, .chan none, .chan none, .chan none, .chan none, .chan none, .chan none, .chan none, .chan none, .chan none, .chan none, .chan none, .chan none, .chan none, .chan none, .chan none, .chan none, .chan none, .chan none, .chan none, .chan none, .chan none, .chan none, .chan none, .chan none, .chan none, .chan none, .chan none, .chan none, .chan none, .chan none, .chan none, .chan none, .chan none, .chan none, .chan none, .chan none, .chan none, .chan none, .chan none, .chan none, .chan none, .chan none, .chan none, .chan none, .chan none, .chan none, .chan none, .chan none, .chan none, .chan none, .chan none, .chan none, .chan none, .chan none, .chan none, .chan none, .chan none, .chan none, .chan none, .chan none, .chan none, .chan none, .chan none, .chan none, .chan none, .chan none, .chan none, .chan none, .chan none, .chan none, .chan none, .chan none, .chan none, .chan none]) ?_ ?_
      · repeat refine LS.seq ?_
        refine LS.block ?_
        repeat refine LS.seq ?_
        refine LS.region rfl ?_
        refine OS.pure rfl (fun _ => rfl) rfl ?_
        refine OS.pure rfl (fun _ => rfl) rfl ?_
        refine OS.pure rfl (fun _ => rfl) rfl ?_
        refine OS.at1 (j := k) ((huS [_])) ((show _ = some (Value.int .i64 (vid x : Nat)) by simp [hx])) rfl rfl rfl rfl rfl rfl (fun ra0 oa0 rowa0 csa0 ma0 ca0 ga0 => ⟨_, rfl, ?_⟩)
        refine OS.read rfl (e_loadm ma0 ca0 rfl rfl (part_one rfl ga0)) rfl ?_
        refine OS.call noGo rfl (fun _ => rfl) ((Blocks_ct hW.ok hsd' hval hx0 htk).mono ?_)
        rintro v L₁ ⟨q, rfl, rfl⟩
        refine ⟨_, rfl, ?_⟩
        refine OS.pure rfl (fun _ => rfl) rfl ?_
        refine OS.pure rfl (fun _ => rfl) rfl ?_
        refine OS.pure rfl (fun _ => rfl) rfl ?_
        refine OS.pure rfl (fun _ => rfl) rfl ?_
        refine OS.pure rfl (fun _ => rfl) rfl ?_
        refine OS.nil ?_
        repeat refine LS.seq ?_
        refine LS.region rfl ?_
        refine OS.pure rfl (fun _ => rfl) rfl ?_
        refine OS.pure rfl (fun _ => rfl) rfl ?_
        refine OS.nil ?_
        refine LS.cond rfl (fun hc => by cases hc) (fun hc => ?_)
        refine LS.skip ?_
        repeat refine LS.seq ?_
        refine LS.region rfl ?_
        refine OS.pure rfl (fun _ => rfl) rfl ?_
        refine OS.nil ?_
        refine LS.block ?_
        refine LS.loopJ [1, 2, 7, 9, 10, 11, 12, 16, 17, 18, 19, 21] (fun p a L₁ => ∃ (j : Nat) (O : List Nat), p = x.1.length - j ∧ j ≤ x.1.length ∧ O.length = n ∧ (∀ y, y < n → y ∉ flt (V.take k) ++ x.1.take j → O[y]? = some 0) ∧ L₁ = bl c s' T ((q, .cells 3 (ints x.1)) :: (ro, .cells 3 (ints O)) :: W) ∧
          a = [.chan none, lv, dv, .chan none, .chan none, .chan none, .chan none, .int .i64 (n : Nat), .chan none, ptr c.rm, ptr c.rD, u, .int .i64 (i : Nat), .chan none, .chan none, .chan none, .slice (some ⟨ro, 0, none⟩) n n, .int .i64 (((flt (V.take k)).length + j : Nat) : Int), .int .i64 (k : Nat), .slice (some ⟨q, 0, none⟩) x.1.length openCap, .chan none, .int .i64 (j : Nat), .chan none, .chan none, .chan none, .chan none, .chan none, .chan none, .chan none, .chan none, .chan none, .chan none, .chan none, .chan none, .chan none, .chan none, .chan none, .chan none, .chan none, .chan none, .chan none, .chan none, .chan none, .chan none, .chan none, .chan none, .chan none, .chan none, .chan none, .chan none, .chan none, .chan none, .chan none, .chan none, .chan none, .chan none, .chan none, .chan none, .chan none, .chan none, .chan none, .chan none, .chan none, .chan none, .chan none, .chan none, .chan none, .chan none, .chan none, .chan none, .chan none, .chan none, .chan none, .chan none, .chan none, .chan none, .chan none, .chan none, .chan none, .chan none, .chan none, .chan none, .chan none, .chan none, .chan none, .chan none, .chan none, .chan none, .chan none, .chan none, .chan none, .chan none, .chan none, .chan none, .chan none, .chan none, .chan none, .chan none, .chan none, .chan none, .chan none, .chan none, .chan none, .chan none, .chan none, .chan none, .chan none, .chan none, .chan none, .chan none, .chan none, .chan none, .chan none, .chan none, .chan none, .chan none, .chan none, .chan none, .chan none, .chan none, .chan none, .chan none, .chan none, .chan none, .chan none, .chan none, .chan none, .chan none, .chan none, .chan none, .chan none, .chan none, .chan none, .chan none, .chan none, .chan none, .chan none, .chan none, .chan none, .chan none, .chan none, .chan none, .chan none, .chan none, .chan none, .chan none, .chan none, .chan none, .chan none, .chan none, .chan none, .chan none, .chan none, .chan none, .chan none, .chan none, .chan none, .chan none, .chan none, .chan none, .chan none, .chan none, .chan none, .chan none, .chan none, .chan none, .chan none, .chan none, .chan none, .chan none, .chan none, .chan none, .chan none, .chan none, .chan none, .chan none, .chan none, .chan none, .chan none, .chan none, .chan none, .chan none, .chan none, .chan none, .chan none, .chan none, .chan none, .chan none, .chan none, .chan none, .chan none, .chan none, .chan none, .chan none, .chan none, .chan none, .chan none, .chan none, .chan none, .chan none, .chan none, .chan none]) (n := x.1.length) rfl
          ⟨0, O, rfl, by omega, hO, by simpa using hfree, rfl, rfl⟩ ?_
        rintro p a L₁ ⟨j, O, rfl, hj, hO, hfree, rfl, rfl⟩
        repeat refine LS.seq ?_
        refine LS.region rfl ?_
        refine OS.pure rfl (fun _ => rfl) rfl ?_
        refine OS.pure rfl (fun _ => rfl) rfl ?_
        refine OS.pure rfl (fun _ => rfl) rfl ?_
        refine OS.pure rfl (fun _ => rfl) rfl ?_
        refine OS.nil ?_
        repeat refine LS.seq ?_
        refine LS.cond rfl (fun hc => ?_) (fun hc => ?_)
        · have hc : (j : Int) < x.1.length := lt_of hc
          have hjl : j < x.1.length := by omega
          obtain ⟨y, hy⟩ : ∃ y, x.1[j]? = some y := ⟨_, List.getElem?_eq_getElem hjl⟩
          have hym : y ∈ x.1 := List.mem_of_getElem? hy
          have hyn : y < n := by rw [← hTn]; exact hval.lt y hym
          have hyt := hW.tk hxm hym
          have hynew : y ∉ flt (V.take k) ++ x.1.take j := fun h => by
            rcases List.mem_append.1 h with h | h
            · exact (List.nodup_append.1 hnd).2.2 y h y hym rfl
            · obtain ⟨a, ha⟩ := List.mem_iff_getElem?.1 h
              rw [List.getElem?_take] at ha
              split at ha
              · have := hval.rises.lt (by assumption) ha hy; omega
              · cases ha
          have hO0 := hfree y hyn hynew
          have hy2 : (ints x.1)[0 + j * 1]? = some (Value.int .i64 (y : Nat)) := by rw [Nat.mul_one, Nat.zero_add, List.getElem?_map, hy]; rfl
          have hO2 : (ints O)[0 + y * 1]? = some (Value.int .i64 0) := by rw [Nat.mul_one, Nat.zero_add, List.getElem?_map, hO0]; rfl
          have hb1 : (!ileB 0 (y : Int)) = false := by rw [ileB_eq]; simp
          have hb2 : ileB (n : Int) (y : Nat) = false := by rw [ileB_eq]; simp; omega
          have hb3 : (decide (0 ≤ ((y : Nat) : Int) ∧ ((y : Nat) : Int) < T.length) && Z.tkn T ((y : Nat) : Int).toNat) = true := by
            rw [Int.toNat_natCast, hyt, Bool.and_true, decide_eq_true (by omega)]
          refine LS.skip ?_
          repeat refine LS.seq ?_
          refine LS.block ?_
          refine LS.seq ?_
          refine LS.mid [1, 2, 7, 9, 10, 11, 12, 16, 17, 18, 19, 21] (fun a L₁ => L₁ = bl c s' T ((q, .cells 3 (ints x.1)) :: (ro, .cells 3 (ints O)) :: W) ∧
            a = [.chan none, lv, dv, .chan none, .chan none, .chan none, .chan none, .int .i64 (n : Nat), .chan none, ptr c.rm, ptr c.rD, u, .int .i64 (i : Nat), .chan none, .chan none, .chan none, .slice (some ⟨ro, 0, none⟩) n n, .int .i64 (((flt (V.take k)).length + j : Nat) : Int), .int .i64 (k : Nat), .slice (some ⟨q, 0, none⟩) x.1.length openCap, .chan none, .int .i64 (j : Nat), .chan none, .chan none, .chan none, .chan none, .chan none, .chan none, .chan none, .chan none, .chan none, .chan none, .chan none, .chan none, .chan none, .chan none, .chan none, .chan none, .chan none, .chan none, .chan none, .chan none, .chan none, .chan none, .chan none, .chan none, .chan none, .chan none, .chan none, .chan none, .chan none, .chan none, .chan none, .chan none, .chan none, .chan none, .chan none, .chan none, .chan none, .chan none, .chan none, .chan none, .chan none, .chan none, .chan none, .chan none, .chan none, .chan none, .chan none, .chan none, .chan none, .chan none, .chan none, .chan none, .chan none, .chan none, .chan none, .chan none, .chan none, .chan none, .chan none, .chan none, .chan none, .chan none, .chan none, .chan none, .chan none, .chan none, .chan none, .chan none, .chan none, .chan none, .chan none, .chan none, .chan none, .chan none, .chan none, .chan none, .chan none, .chan none, .chan none, .chan none, .chan none, .chan none, .chan none, .chan none, .chan none, .chan none, .chan none, .chan none, .chan none, .chan none, .chan none, .chan none, .chan none, .chan none, .chan none, .chan none, .chan none, .chan none, .chan none, .chan none, .chan none, .chan none, .chan none, .chan none, .chan none, .chan none, .chan none, .chan none, .chan none, .chan none, .chan none, .chan none, .chan none, .chan none, .chan none, .chan none, .chan none, .chan none, .chan none, .chan none, .chan none, .chan none, .chan none, .chan none, .chan none, .chan none, .chan none, .chan none, .chan none, .chan none, .chan none, .chan none, .chan none, .chan none, .chan none, .chan none, .chan none, .chan none, .chan none, .chan none, .chan none, .chan none, .chan none, .chan none, .chan none, .chan none, .chan none, .chan none, .chan none, .chan none, .chan none, .chan none, .chan none, .chan none, .chan none, .chan none, .chan none, .chan none, .chan none, .chan none, .chan none, .chan none, .chan none, .chan none, .chan none, .chan none, .chan none, .chan none, .chan none, .chan none, .chan none, .chan none, .chan none, .chan none, .chan none, .chan none, .chan none, .chan none, .chan none, .chan none]) ?_ ?_
          · repeat refine LS.seq ?_
            refine LS.drawn noGo mixed [(0, false), (1, false), (2, false), (3, false), (4, false), (5, false), (6, false), (7, false), (8, false), (9, false), (10, false), (11, false), (12, false), (13, false), (14, false), (15, false), (16, false), (17, false), (18, false), (19, false), (20, false), (21, false), (22, false), (23, false), (24, false), (25, false), (26, false), (27, false), (28, false), (29, true), (30, false), (31, false), (32, false), (33, false), (34, false), (35, false), (36, false), (37, false), (38, false), (39, false), (40, false), (41, false), (42, false), (43, false), (44, false), (45, false), (46, false), (47, false)] rfl rfl (by kernel_rfl) ?_
            refine ODS.pure rfl rfl (fun _ => rfl) rfl ?_
            refine ODS.pure rfl rfl (fun _ => rfl) rfl ?_
            refine ODS.pure rfl rfl (e_index (j := j) (sz := 1) rfl rfl rfl rfl rfl hjl) rfl ?_
            refine ODS.read rfl rfl (e_load 6 rfl rfl rfl rfl (part_one rfl hy2)) rfl ?_
            refine ODS.pure rfl rfl (e_is (fun _ => rfl) (congrArg Value.bool hb1)) rfl ?_
            refine ODS.pure rfl rfl (fun _ => rfl) rfl ?_
            refine ODS.pure rfl rfl (fun _ => rfl) rfl ?_
            refine ODS.pure rfl rfl (fun _ => rfl) rfl ?_
            refine ODS.pure rfl rfl (e_index (j := j) (sz := 1) rfl rfl rfl rfl rfl hjl) rfl ?_
            refine ODS.read rfl rfl (e_load 6 rfl rfl rfl rfl (part_one rfl hy2)) rfl ?_
            refine ODS.pure rfl rfl (fun _ => rfl) rfl ?_
            refine ODS.pure rfl rfl (e_is (fun _ => rfl) (congrArg Value.bool hb2)) rfl ?_
            refine ODS.pure rfl rfl (fun _ => rfl) rfl ?_
            refine ODS.pure rfl rfl (fun _ => rfl) rfl ?_
            refine ODS.pure rfl rfl (fun _ => rfl) rfl ?_
            refine ODS.pure rfl rfl (fun _ => rfl) rfl ?_
            refine ODS.pure rfl rfl (fun _ => rfl) rfl ?_
            refine ODS.pure rfl rfl (e_index (j := j) (sz := 1) rfl rfl rfl rfl rfl hjl) rfl ?_
            refine ODS.read rfl rfl (e_load 6 rfl rfl rfl rfl (part_one rfl hy2)) rfl ?_
            refine ODS.pure rfl rfl (e_index (j := y) (sz := 1) rfl rfl rfl rfl rfl hyn) rfl ?_
            refine ODS.read rfl rfl (e_load 7 rfl rfl rfl rfl (part_one rfl hO2)) rfl ?_
            refine ODS.pure rfl rfl (fun _ => rfl) rfl ?_
            refine ODS.pure rfl rfl (fun _ => rfl) rfl ?_
            refine ODS.pure rfl rfl (fun _ => rfl) rfl ?_
            refine ODS.pure rfl rfl (fun _ => rfl) rfl ?_
            refine ODS.pure rfl rfl (fun _ => rfl) rfl ?_
            refine ODS.pure rfl rfl (fun _ => rfl) rfl ?_
            refine ODS.pure rfl rfl (e_index (j := j) (sz := 1) rfl rfl rfl rfl rfl hjl) rfl ?_
            refine ODS.read rfl rfl (e_load 6 rfl rfl rfl rfl (part_one rfl hy2)) rfl ?_
            refine ODS.call rfl rfl (fun _ => rfl) ((bTaken_ct hW.ok.len (y : Nat)).mono ?_)
            rintro v L₁ ⟨rfl, rfl⟩
            rw [hb3]
            refine ⟨_, rfl, Keep.gone rfl (Keep.gone rfl (Keep.gone rfl (Keep.gone rfl (Keep.gone rfl Keep.nil)))), ?_⟩
            refine ODS.pure rfl rfl (fun _ => rfl) rfl ?_
            refine ODS.pure rfl rfl (fun _ => rfl) rfl ?_
            refine ODS.pure rfl rfl (fun _ => rfl) rfl ?_
            refine ODS.pure rfl rfl (fun _ => rfl) rfl ?_
            rcases Nat.eq_zero_or_pos j with hj0 | hj0
            · have hb4 : (!ileB (j : Int) 0) = false := by rw [hj0]; rfl
              refine ODS.pure rfl rfl (e_is (fun _ => rfl) (congrArg Value.bool hb4)) rfl ?_
              refine ODS.pure rfl rfl (fun _ => rfl) rfl ?_
              iterate 10 refine ODS.skip rfl rfl rfl ?_
              refine ODS.pure rfl rfl (fun _ => rfl) rfl ?_
              refine ODS.pure rfl rfl (fun _ => rfl) rfl ?_
              refine ODS.nil ?_
              refine LS.cond rfl (fun hc => by cases hc) (fun hc => ?_)
              refine LS.skip ?_
              exact ⟨rfl, rfl⟩
            · have hb4 : (!ileB (j : Int) 0) = true := by rw [ileB_eq, Bool.not_eq_true', decide_eq_false_iff_not]; omega
              obtain ⟨w, hw⟩ : ∃ w, x.1[j - 1]? = some w := ⟨_, List.getElem?_eq_getElem (by omega)⟩
              have hwy : w < y := hval.rises.lt (show j - 1 < j by omega) hw hy
              have hb5 : ileB (y : Int) (w : Nat) = false := by rw [ileB_eq]; simp; omega
              have hw2 : (ints x.1)[0 + (j - 1) * 1]? = some (Value.int .i64 (w : Nat)) := by rw [Nat.mul_one, Nat.zero_add, List.getElem?_map, hw]; rfl
              refine ODS.pure rfl rfl (e_is (fun _ => rfl) (congrArg Value.bool hb4)) rfl ?_
              refine ODS.pure rfl rfl (fun _ => rfl) rfl ?_
              refine ODS.pure rfl rfl (fun _ => rfl) rfl ?_
              refine ODS.pure rfl rfl (fun _ => rfl) rfl ?_
              refine ODS.pure rfl rfl (e_is (e_sub (k := .i64) (m := ((j : Nat) : Int)) (n := 1) rfl rfl rfl (in_i64 (by omega) (by omega))) (congrArg (Value.int .i64) (show ((j : Nat) : Int) - 1 = ((j - 1 : Nat) : Int) by omega))) rfl ?_
              refine ODS.pure rfl rfl (e_index (j := j - 1) (sz := 1) rfl rfl rfl rfl rfl (by omega)) rfl ?_
              refine ODS.read rfl rfl (e_load 6 rfl rfl rfl rfl (part_one rfl hw2)) rfl ?_
              refine ODS.pure rfl rfl (fun _ => rfl) rfl ?_
              refine ODS.pure rfl rfl (fun _ => rfl) rfl ?_
              refine ODS.pure rfl rfl (e_index (j := j) (sz := 1) rfl rfl rfl rfl rfl hjl) rfl ?_
              refine ODS.read rfl rfl (e_load 6 rfl rfl rfl rfl (part_one rfl hy2)) rfl ?_
              refine ODS.pure rfl rfl (e_is (fun _ => rfl) (congrArg Value.bool hb5)) rfl ?_
              refine ODS.pure rfl rfl (fun _ => rfl) rfl ?_
              refine ODS.pure rfl rfl (fun _ => rfl) rfl ?_
              refine ODS.nil ?_
              refine LS.cond rfl (fun hc => by cases hc) (fun hc => ?_)
              refine LS.skip ?_
              exact ⟨rfl, rfl⟩
          rintro a L₁ ⟨rfl, rfl⟩
          repeat refine LS.seq ?_
          refine LS.region rfl ?_
          refine OS.pure rfl (fun _ => rfl) rfl ?_
          refine OS.pure rfl (fun _ => rfl) rfl ?_
          refine OS.pure rfl (fun _ => rfl) rfl ?_
          refine OS.pure rfl (e_index (j := j) (sz := 1) rfl rfl rfl rfl rfl hjl) rfl ?_
          refine OS.read rfl (e_load 6 rfl rfl rfl rfl (part_one rfl hy2)) rfl ?_
          refine OS.pure rfl (fun _ => rfl) rfl ?_
          refine OS.pure rfl (e_is (e_add (k := .i64) (m := ((k : Nat) : Int)) (n := 1) rfl rfl rfl (in_i64 (by omega) (by omega))) (congrArg (Value.int .i64) (show ((k : Nat) : Int) + 1 = ((k + 1 : Nat) : Int) by omega))) rfl ?_
          refine OS.pure rfl (e_index (j := y) (sz := 1) rfl rfl rfl rfl rfl hyn) rfl ?_
          refine OS.write rfl (e_store 7 (n := 1) rfl rfl rfl rfl rfl rfl (lay_one (by simp; omega)) rfl) rfl ?_
          rw [show (ints O).set (0 + y * 1) (Value.int .i64 ((k + 1 : Nat) : Int)) = ints (O.set y (k + 1)) by rw [Nat.mul_one, Nat.zero_add]; simp [List.map_set]]
          refine OS.nil ?_
          repeat refine LS.seq ?_
          refine LS.region rfl ?_
          refine OS.pure rfl (fun _ => rfl) rfl ?_
          refine OS.pure rfl (e_add rfl rfl rfl (in_i64 (by omega) (by omega))) rfl ?_
          refine OS.pure rfl (fun _ => rfl) rfl ?_
          refine OS.nil ?_
          repeat refine LS.seq ?_
          refine LS.region rfl ?_
          refine OS.pure rfl (fun _ => rfl) rfl ?_
          refine OS.pure rfl (e_add rfl rfl rfl (in_i64 (by omega) (by omega))) rfl ?_
          refine OS.pure rfl (fun _ => rfl) rfl ?_
          refine OS.nil ?_
          refine ⟨x.1.length - (j + 1), by omega, j + 1, O.set y (k + 1), rfl, by omega, by rw [List.length_set]; exact hO, fun b hb hb' => ?_, rfl, rfl⟩
          rw [List.take_add_one, hy] at hb'
          have hby : b ≠ y := fun h => hb' (by simp [h])
          have hbo : b ∉ flt (V.take k) ++ x.1.take j := fun h => hb' (by
            rcases List.mem_append.1 h with h | h
            · exact List.mem_append_left _ h
            · exact List.mem_append_right _ (List.mem_append_left _ h))
          rw [List.getElem?_set_ne (fun h => hby h.symm)]
          exact hfree b hb hbo
        have hc : (x.1.length : Int) ≤ j := nlt_of hc
        have hjl : j = x.1.length := by omega
        subst hjl
        rw [List.take_length, ← hsplit] at hfree
        refine LS.sub (Sub.drop 6 rfl) ?_
        refine LS.exit ?_
        exact ⟨O, hO, hfree, rfl, by rw [hsplit, List.length_append]; rfl⟩
      rintro a L₁ ⟨O, hO, hfree, rfl, rfl⟩
      repeat refine LS.seq ?_
      refine LS.region rfl ?_
      refine OS.pure rfl (fun _ => rfl) rfl ?_
      refine OS.pure rfl (e_add rfl rfl rfl (in_i64 (by omega) (by omega))) rfl ?_
      refine OS.pure rfl (fun _ => rfl) rfl ?_
      refine OS.nil ?_
      exact ⟨V.length - (k + 1), by omega, k + 1, O, rfl, by omega, hO, hfree, rfl, rfl⟩
    have hc : (V.length : Int) ≤ k := nlt_of hc
    have hkV : k = V.length := by omega
    subst hkV
    rw [List.take_length]
    refine LS.exit ?_
    exact ⟨O, rfl, rfl⟩
  rintro a L₁ ⟨O, rfl, rfl⟩
  have hcnt : (flt V).length + Z.frees T = n := by rw [← hTn]; exact hW.h.cnt
  repeat refine LS.seq ?_
  refine LS.region rfl ?_
  refine OS.pure rfl (fun _ => rfl) rfl ?_
  refine OS.pure rfl (fun _ => rfl) rfl ?_
  refine OS.call noGo rfl (fun _ => rfl) ((bFree_ct hW.ok.len).mono ?_)
  rintro v L₁ ⟨rfl, rfl⟩
  refine ⟨_, rfl, ?_⟩
  refine OS.pure rfl (e_is (e_add (k := .i64) (m := (((flt V).length : Nat) : Int)) (n := ((Z.frees T : Nat) : Int)) rfl rfl rfl (in_i64 (by omega) (by omega))) (congrArg (Value.int .i64) (show (((flt V).length : Nat) : Int) + ((Z.frees T : Nat) : Int) = ((n : Nat) : Int) by omega))) rfl ?_
  refine OS.pure rfl (fun _ => rfl) rfl ?_
  refine OS.pure rfl (e_is (fun _ => rfl) (congrArg Value.bool (ne_same _))) rfl ?_
  refine OS.nil ?_
  refine LS.cond rfl (fun hc => by cases hc) (fun hc => ?_)
  refine LS.skip ?_
  repeat refine LS.seq ?_
  refine LS.region rfl ?_
  refine OS.pure rfl (fun _ => rfl) rfl ?_
  refine OS.pure rfl (e_add rfl rfl rfl (in_i64 (by omega) (by omega))) rfl ?_
  refine OS.pure rfl (fun _ => rfl) rfl ?_
  refine OS.sub (Sub.sums (A := bl c s' T (Yh ++ (((ro, .cells 3 (ints O)) :: Y) ++ L))) fun f => by rw [hWW]; simp [bl, Z.fm] <;> omega) ?_
  refine OS.nil ?_
  exact ⟨m - (i + 1), by omega, i + 1, rfl, by omega, c, s', T, V, u, Yh, _, hW, hsd', hsc', hTn, hVi, hu, rfl, rfl⟩
end Go.Proofs.Yteiiekfccecoiaa
