import Derived.Test.YtllcbjaajffaeaaGreatDoorWg
namespace Go.Proofs.YtllcbjaajffaeaaGreatDoor
open Go.Am
set_option linter.unusedVariables false
set_option maxRecDepth 20000
def ownP : List UInt8 → Bool
  | [] => false
  | c :: w => !(c == 35) && (c :: w).all isP
def markE (c : UInt8) : List UInt8 :=
  if c = 34 ∨ c = 92 then [92, c] else if c = 10 then [92, 110] else if c = 9 then [92, 116] else if isS c then [c] else [92, 120, hexC (c.toNat / 16), hexC (c.toNat % 16)]
def ownF (w : List UInt8) : List UInt8 := if ownP w then w else [34] ++ w.flatMap markE ++ [34]
theorem markE_len (c : UInt8) : 1 ≤ (markE c).length ∧ (markE c).length ≤ 4 := by
  unfold markE
  split
  · simp
  · split
    · simp
    · split
      · simp
      · split <;> simp
theorem marks_len : ∀ (w : List UInt8), w.length ≤ (w.flatMap markE).length ∧ (w.flatMap markE).length ≤ 4 * w.length
  | [] => by simp
  | c :: w => by
    have h1 := markE_len c
    have h2 := marks_len w
    simp only [List.flatMap_cons, List.length_append, List.length_cons]
    omega
theorem ownF_len (w : List UInt8) : w.length ≤ (ownF w).length ∧ (ownF w).length ≤ 4 * w.length + 2 := by
  have := marks_len w
  unfold ownF
  split
  · omega
  · simp only [List.length_append, List.length_cons, List.length_nil]; omega
theorem hexS_at {n : Nat} (h : n < 16) : hexS[n]? = some (hexC n) := (dig_new h).2.2
theorem addBytes_ct {F L : RL} {b : Nat} {bs : List UInt8} (t : List UInt8) (hB : BD b bs F L) (hn : bs.length + t.length ≤ 100000000) : CS Tryz.prog 195 [ptr b, str t] L fun v L' => BD b (bs ++ t) F L' := by
  refine CS.mk (fn := Tryz.f195) rfl rfl rfl rfl ?_
  repeat refine LS.seq ?_
  refine LS.region rfl ?_
  refine OS.pure rfl (fun _ => rfl) rfl ?_
  refine OS.pure rfl (fun _ => rfl) rfl ?_
  refine OS.pure rfl (fun _ => rfl) rfl ?_
  refine OS.nil ?_
  repeat refine LS.seq ?_
  refine LS.block ?_
  refine LS.loopJ [0, 1, 6, 7] (fun q a L' => ∃ j : Nat, q = t.length - j ∧ j ≤ t.length ∧ BD b (bs ++ t.take j) F L' ∧ a = [ptr b, str t, .chan none, .chan none, .chan none, .chan none, .int .i64 (t.length : Nat), .int .i64 (j : Nat), .chan none, .chan none, .chan none, .chan none, .chan none, .chan none, .chan none, .chan none]) (n := t.length) rfl ⟨0, rfl, by omega, by simpa using hB, rfl⟩ ?_
  rintro q a L' ⟨j, rfl, hj, hB', rfl⟩
  repeat refine LS.seq ?_
  refine LS.region rfl ?_
  refine OS.pure rfl (fun _ => rfl) rfl ?_
  refine OS.nil ?_
  repeat refine LS.seq ?_
  refine LS.cond rfl (fun hc => ?_) (fun hc => ?_)
  · have hc : (j : Int) < t.length := lt_of hc
    have hjl : j < t.length := by omega
    refine LS.skip ?_
    repeat refine LS.seq ?_
    refine LS.block ?_
    repeat refine LS.seq ?_
    refine LS.region rfl ?_
    refine OS.pure rfl (fun _ => rfl) rfl ?_
    refine OS.pure rfl (fun _ => rfl) rfl ?_
    refine OS.nil ?_
    repeat refine LS.seq ?_
    refine LS.region rfl ?_
    refine OS.pure rfl (fun _ => rfl) rfl ?_
    refine OS.pure rfl (fun _ => rfl) rfl ?_
    refine OS.pure rfl (fun _ => rfl) rfl ?_
    refine OS.pure rfl (e_byte (s := t) (j := j) rfl rfl rfl rfl (List.getElem?_eq_getElem hjl)) rfl ?_
    refine OS.call noGo rfl (fun _ => rfl) ((WriteByte_ct (t[j]'hjl) hB' (by simp; omega)).mono ?_)
    rintro v L₁ ⟨rfl, hB2⟩
    refine ⟨_, rfl, ?_⟩
    refine OS.nil ?_
    repeat refine LS.seq ?_
    refine LS.region rfl ?_
    refine OS.pure rfl (e_add (m := (j : Int)) (n := 1) rfl rfl rfl (in_i64 (by omega) (by omega))) rfl ?_
    rw [show ((j : Nat) : Int) + 1 = ((j + 1 : Nat) : Int) by omega]
    refine OS.pure rfl (fun _ => rfl) rfl ?_
    refine OS.nil ?_
    refine ⟨t.length - (j + 1), by omega, j + 1, rfl, by omega, ?_, rfl⟩
    rw [List.append_assoc] at hB2
    rw [List.take_add_one, List.getElem?_eq_getElem hjl]
    simpa using hB2
  · have hc : (t.length : Int) ≤ j := nlt_of hc
    refine LS.exit ?_
    refine ⟨_, fun _ _ => rfl, ?_⟩
    rwa [List.take_of_length_le (by omega)] at hB'
theorem addMark_ct {F L : RL} {b : Nat} {bs : List UInt8} (c : UInt8) (hB : BD b bs F L) (hn : bs.length ≤ 10000000) : CS Tryz.prog 213 [ptr b, .int .u8 (c.toNat : Nat)] L fun v L' => BD b (bs ++ markE c) F L' := by
  have hcl := c.toNat_lt
  have slash : ∀ (L : RL), BD b bs F L → CS Tryz.prog 168 [ptr b, .int .u8 92] L fun v L' => v = .nilIface ∧ BD b (bs ++ [92]) F L' := fun L h => WriteByte_ct 92 h (by omega)
  refine CS.mk (fn := Tryz.f213) rfl rfl rfl rfl ?_
  repeat refine LS.seq ?_
  refine LS.region rfl ?_
  refine OS.pure rfl (fun _ => rfl) rfl ?_
  refine OS.nil ?_
  repeat refine LS.seq ?_
  refine LS.block ?_
  repeat refine LS.seq ?_
  refine LS.region rfl ?_
  refine OS.pure rfl (fun _ => rfl) rfl ?_
  refine OS.pure rfl (fun _ => rfl) rfl ?_
  refine OS.nil ?_
  have two : (c = 34 ∨ c = 92) → ∀ L', BD b (bs ++ [92] ++ [c]) F L' → BD b (bs ++ markE c) F L' := fun h L' hB => by
    have : markE c = [92, c] := by simp [markE, h]
    rw [this]; simpa using hB
  repeat refine LS.seq ?_
  refine LS.cond rfl (fun g1 => ?_) (fun g1 => ?_)
  · have g1 := is_u8 34 g1 rfl
    subst g1
    refine LS.skip ?_
    repeat refine LS.seq ?_
    refine LS.cond rfl (fun h => ?_) (fun h => ?_)
    · repeat refine LS.seq ?_
      refine LS.region rfl ?_
      refine OS.pure rfl (fun _ => rfl) rfl ?_
      refine OS.call noGo rfl (fun _ => rfl) ((slash _ hB).mono ?_)
      rintro v L₁ ⟨rfl, hB1⟩
      refine ⟨_, rfl, ?_⟩
      refine OS.nil ?_
      repeat refine LS.seq ?_
      refine LS.region rfl ?_
      refine OS.pure rfl (fun _ => rfl) rfl ?_
      refine OS.pure rfl (fun _ => rfl) rfl ?_
      refine OS.call noGo rfl (fun _ => rfl) ((WriteByte_ct 34 hB1 (by simp; omega)).mono ?_)
      rintro v L₂ ⟨rfl, hB2⟩
      refine ⟨_, rfl, ?_⟩
      refine OS.nil ?_
      exact ⟨_, fun _ _ => rfl, two (.inl rfl) _ hB2⟩
    · cases h
  have g1 := not_u8 34 g1 rfl
  repeat refine LS.seq ?_
  refine LS.region rfl ?_
  refine OS.pure rfl (fun _ => rfl) rfl ?_
  refine OS.pure rfl (fun _ => rfl) rfl ?_
  refine OS.nil ?_
  repeat refine LS.seq ?_
  refine LS.cond rfl (fun g2 => ?_) (fun g2 => ?_)
  · have g2 := is_u8 92 g2 rfl
    repeat refine LS.seq ?_
    refine LS.region rfl ?_
    refine OS.pure rfl (fun _ => rfl) rfl ?_
    refine OS.call noGo rfl (fun _ => rfl) ((slash _ hB).mono ?_)
    rintro v L₁ ⟨rfl, hB1⟩
    refine ⟨_, rfl, ?_⟩
    refine OS.nil ?_
    repeat refine LS.seq ?_
    refine LS.region rfl ?_
    refine OS.pure rfl (fun _ => rfl) rfl ?_
    refine OS.pure rfl (fun _ => rfl) rfl ?_
    refine OS.call noGo rfl (fun _ => rfl) ((WriteByte_ct c hB1 (by simp; omega)).mono ?_)
    rintro v L₂ ⟨rfl, hB2⟩
    refine ⟨_, rfl, ?_⟩
    refine OS.nil ?_
    exact ⟨_, fun _ _ => rfl, two (.inr g2) _ hB2⟩
  have g2 := not_u8 92 g2 rfl
  repeat refine LS.seq ?_
  refine LS.region rfl ?_
  refine OS.pure rfl (fun _ => rfl) rfl ?_
  refine OS.pure rfl (fun _ => rfl) rfl ?_
  refine OS.nil ?_
  repeat refine LS.seq ?_
  refine LS.cond rfl (fun g3 => ?_) (fun g3 => ?_)
  · have g3 := is_u8 10 g3 rfl
    subst g3
    repeat refine LS.seq ?_
    refine LS.region rfl ?_
    refine OS.pure rfl (fun _ => rfl) rfl ?_
    refine OS.call noGo rfl (fun _ => rfl) ((addBytes_ct [92, 110] hB (by simp; omega)).mono ?_)
    rintro v L₁ hB1
    refine ⟨_, rfl, ?_⟩
    refine OS.nil ?_
    exact ⟨_, fun _ _ => rfl, hB1⟩
  have g3 := not_u8 10 g3 rfl
  repeat refine LS.seq ?_
  refine LS.region rfl ?_
  refine OS.pure rfl (fun _ => rfl) rfl ?_
  refine OS.pure rfl (fun _ => rfl) rfl ?_
  refine OS.nil ?_
  repeat refine LS.seq ?_
  refine LS.cond rfl (fun g4 => ?_) (fun g4 => ?_)
  · have g4 := is_u8 9 g4 rfl
    subst g4
    repeat refine LS.seq ?_
    refine LS.region rfl ?_
    refine OS.pure rfl (fun _ => rfl) rfl ?_
    refine OS.call noGo rfl (fun _ => rfl) ((addBytes_ct [92, 116] hB (by simp; omega)).mono ?_)
    rintro v L₁ hB1
    refine ⟨_, rfl, ?_⟩
    refine OS.nil ?_
    exact ⟨_, fun _ _ => rfl, hB1⟩
  have g4 := not_u8 9 g4 rfl
  repeat refine LS.seq ?_
  refine LS.region rfl ?_
  refine OS.pure rfl (fun _ => rfl) rfl ?_
  refine OS.call noGo rfl (fun _ => rfl) ((isShown_ct c).mono ?_)
  rintro v L₀ ⟨rfl, rfl⟩
  refine ⟨_, rfl, ?_⟩
  refine OS.nil ?_
  repeat refine LS.seq ?_
  refine LS.cond rfl (fun g5 => ?_) (fun g5 => ?_)
  · have g5 : isS c = true := g5
    repeat refine LS.seq ?_
    refine LS.region rfl ?_
    refine OS.pure rfl (fun _ => rfl) rfl ?_
    refine OS.pure rfl (fun _ => rfl) rfl ?_
    refine OS.call noGo rfl (fun _ => rfl) ((WriteByte_ct c hB (by omega)).mono ?_)
    rintro v L₂ ⟨rfl, hB2⟩
    refine ⟨_, rfl, ?_⟩
    refine OS.nil ?_
    refine LS.ret ⟨_, fun _ _ => rfl, ?_⟩
    have : markE c = [c] := by simp [markE, g1, g2, g3, g4, g5]
    rw [this]; exact hB2
  have g5 : isS c = false := g5
  have hm : markE c = [92, 120, hexC (c.toNat / 16), hexC (c.toNat % 16)] := by simp [markE, g1, g2, g3, g4, g5]
  refine LS.skip ?_
  repeat refine LS.seq ?_
  refine LS.region rfl ?_
  refine OS.pure rfl (fun _ => rfl) rfl ?_
  refine OS.call noGo rfl (fun _ => rfl) ((addBytes_ct [92, 120] hB (by simp; omega)).mono ?_)
  rintro v L₁ hB1
  refine ⟨_, rfl, ?_⟩
  refine OS.nil ?_
  repeat refine LS.seq ?_
  refine LS.region rfl ?_
  refine OS.pure rfl (fun _ => rfl) rfl ?_
  refine OS.pure rfl (fun _ => rfl) rfl ?_
  refine OS.pure rfl (e_quo (m := c.toNat) (n := 16) rfl rfl rfl (by decide) (in_u8 (by omega) (by omega))) rfl ?_
  refine OS.pure rfl (e_byte (s := hexS) (j := c.toNat / 16) rfl rfl rfl rfl (hexS_at (by omega))) rfl ?_
  refine OS.call noGo rfl (fun _ => rfl) ((WriteByte_ct (hexC (c.toNat / 16)) hB1 (by simp; omega)).mono ?_)
  rintro v L₂ ⟨rfl, hB2⟩
  refine ⟨_, rfl, ?_⟩
  refine OS.nil ?_
  repeat refine LS.seq ?_
  refine LS.region rfl ?_
  refine OS.pure rfl (fun _ => rfl) rfl ?_
  refine OS.pure rfl (fun _ => rfl) rfl ?_
  refine OS.pure rfl (e_rem (m := c.toNat) (n := 16) rfl rfl rfl (by decide)) rfl ?_
  refine OS.pure rfl (e_byte (s := hexS) (j := c.toNat % 16) rfl rfl rfl rfl (hexS_at (by omega))) rfl ?_
  refine OS.call noGo rfl (fun _ => rfl) ((WriteByte_ct (hexC (c.toNat % 16)) hB2 (by simp; omega)).mono ?_)
  rintro v L₃ ⟨rfl, hB3⟩
  refine ⟨_, rfl, ?_⟩
  refine OS.nil ?_
  refine ⟨_, fun _ _ => rfl, ?_⟩
  rw [hm]
  simpa using hB3
theorem addQuoted_ct {F L : RL} {b : Nat} {bs : List UInt8} (t : List UInt8) (hB : BD b bs F L) (hn : bs.length + 4 * t.length ≤ 1000000) : CS Tryz.prog 196 [ptr b, str t] L fun v L' => BD b (bs ++ ([34] ++ t.flatMap markE ++ [34])) F L' := by
  refine CS.mk (fn := Tryz.f196) rfl rfl rfl rfl ?_
  repeat refine LS.seq ?_
  refine LS.region rfl ?_
  refine OS.pure rfl (fun _ => rfl) rfl ?_
  refine OS.call noGo rfl (fun _ => rfl) ((WriteByte_ct 34 hB (by omega)).mono ?_)
  rintro v L₁ ⟨rfl, hB1⟩
  refine ⟨_, rfl, ?_⟩
  refine OS.nil ?_
  repeat refine LS.seq ?_
  refine LS.region rfl ?_
  refine OS.pure rfl (fun _ => rfl) rfl ?_
  refine OS.pure rfl (fun _ => rfl) rfl ?_
  refine OS.pure rfl (fun _ => rfl) rfl ?_
  refine OS.nil ?_
  repeat refine LS.seq ?_
  refine LS.block ?_
  refine LS.loopJ [0, 1, 8, 9] (fun q a L' => ∃ j : Nat, q = t.length - j ∧ j ≤ t.length ∧ BD b (bs ++ [34] ++ (t.take j).flatMap markE) F L' ∧ a = [ptr b, str t, .chan none, .chan none, .chan none, .chan none, .chan none, .chan none, .int .i64 (t.length : Nat), .int .i64 (j : Nat), .chan none, .chan none, .chan none, .chan none, .chan none, .chan none, .chan none, .chan none, .chan none, .chan none]) (n := t.length) rfl ⟨0, rfl, by omega, by simpa using hB1, rfl⟩ ?_
  rintro q a L' ⟨j, rfl, hj, hB', rfl⟩
  have hle := (marks_len (t.take j)).2
  rw [List.length_take] at hle
  repeat refine LS.seq ?_
  refine LS.region rfl ?_
  refine OS.pure rfl (fun _ => rfl) rfl ?_
  refine OS.nil ?_
  repeat refine LS.seq ?_
  refine LS.cond rfl (fun hc => ?_) (fun hc => ?_)
  · have hc : (j : Int) < t.length := lt_of hc
    have hjl : j < t.length := by omega
    refine LS.skip ?_
    repeat refine LS.seq ?_
    refine LS.block ?_
    repeat refine LS.seq ?_
    refine LS.region rfl ?_
    refine OS.pure rfl (fun _ => rfl) rfl ?_
    refine OS.pure rfl (fun _ => rfl) rfl ?_
    refine OS.nil ?_
    repeat refine LS.seq ?_
    refine LS.region rfl ?_
    refine OS.pure rfl (fun _ => rfl) rfl ?_
    refine OS.pure rfl (fun _ => rfl) rfl ?_
    refine OS.pure rfl (fun _ => rfl) rfl ?_
    refine OS.pure rfl (e_byte (s := t) (j := j) rfl rfl rfl rfl (List.getElem?_eq_getElem hjl)) rfl ?_
    refine OS.call noGo rfl (fun _ => rfl) ((addMark_ct (t[j]'hjl) hB' (by simp only [List.length_append, List.length_cons, List.length_nil]; omega)).mono ?_)
    rintro v L₂ hB2
    refine ⟨_, rfl, ?_⟩
    refine OS.nil ?_
    repeat refine LS.seq ?_
    refine LS.region rfl ?_
    refine OS.pure rfl (e_add (m := (j : Int)) (n := 1) rfl rfl rfl (in_i64 (by omega) (by omega))) rfl ?_
    rw [show ((j : Nat) : Int) + 1 = ((j + 1 : Nat) : Int) by omega]
    refine OS.pure rfl (fun _ => rfl) rfl ?_
    refine OS.nil ?_
    refine ⟨t.length - (j + 1), by omega, j + 1, rfl, by omega, ?_, rfl⟩
    have e1 : (t.take (j + 1)).flatMap markE = (t.take j).flatMap markE ++ markE (t[j]'hjl) := by
      rw [List.take_add_one, List.getElem?_eq_getElem hjl]
      simp only [Option.toList_some, List.flatMap_append, List.flatMap_cons, List.flatMap_nil, List.append_nil]
    rw [e1, ← List.append_assoc]; exact hB2
  · have hc : (t.length : Int) ≤ j := nlt_of hc
    have hjl : j = t.length := by omega
    rw [hjl, List.take_length] at hB'
    have h4 := (marks_len t).2
    refine LS.exit ?_
    repeat refine LS.seq ?_
    refine LS.region rfl ?_
    refine OS.pure rfl (fun _ => rfl) rfl ?_
    refine OS.call noGo rfl (fun _ => rfl) ((WriteByte_ct 34 hB' (by simp only [List.length_append, List.length_cons, List.length_nil]; omega)).mono ?_)
    rintro v L₂ ⟨rfl, hB2⟩
    refine ⟨_, rfl, ?_⟩
    refine OS.nil ?_
    refine ⟨_, fun _ _ => rfl, ?_⟩
    simpa using hB2
theorem isPlainWord_ct {L : RL} (t : List UInt8) (hs : t.length ≤ 9000000000000000) : CS Tryz.prog 194 [str t] L fun v L' => v = .bool (ownP t) ∧ L' = L := by
  cases t with
  | nil =>
    refine CS.mk (fn := Tryz.f194) rfl rfl rfl rfl ?_
    repeat refine LS.seq ?_
    refine LS.region rfl ?_
    refine OS.pure rfl (fun _ => rfl) rfl ?_
    refine OS.nil ?_
    repeat refine LS.seq ?_
    refine LS.region rfl ?_
    refine OS.pure rfl (fun _ => rfl) rfl ?_
    refine OS.pure rfl (fun _ => rfl) rfl ?_
    refine OS.pure rfl (fun _ => rfl) rfl ?_
    refine OS.skip rfl rfl ?_
    refine OS.skip rfl rfl ?_
    refine OS.skip rfl rfl ?_
    refine OS.pure rfl (fun _ => rfl) rfl ?_
    refine OS.nil ?_
    repeat refine LS.seq ?_
    refine LS.cond rfl (fun h => ?_) (fun h => ?_)
    · repeat refine LS.seq ?_
      refine LS.region rfl ?_
      refine OS.pure rfl (fun _ => rfl) rfl ?_
      refine OS.nil ?_
      refine LS.ret ⟨_, fun _ _ => rfl, ?_⟩
      exact ⟨rfl, rfl⟩
    · cases h
  | cons c t =>
    refine CS.mk (fn := Tryz.f194) rfl rfl rfl rfl ?_
    repeat refine LS.seq ?_
    refine LS.region rfl ?_
    refine OS.pure rfl (fun _ => rfl) rfl ?_
    refine OS.nil ?_
    repeat refine LS.seq ?_
    refine LS.region rfl ?_
    refine OS.pure rfl (fun _ => rfl) rfl ?_
    refine OS.pure rfl (fun _ => rfl) rfl ?_
    refine OS.pure rfl (fun _ => rfl) rfl ?_
    refine OS.pure rfl (fun _ => rfl) rfl ?_
    refine OS.pure rfl (e_byte (j := 0) rfl rfl rfl rfl rfl) rfl ?_
    refine OS.pure rfl (fun _ => rfl) rfl ?_
    refine OS.pure rfl (fun _ => rfl) rfl ?_
    refine OS.nil ?_
    repeat refine LS.seq ?_
    refine LS.cond rfl (fun h => ?_) (fun h => ?_)
    · have h := is_u8 35 h rfl
      subst h
      repeat refine LS.seq ?_
      refine LS.region rfl ?_
      refine OS.pure rfl (fun _ => rfl) rfl ?_
      refine OS.nil ?_
      refine LS.ret ⟨_, fun _ _ => rfl, ?_⟩
      exact ⟨rfl, rfl⟩
    have h := not_u8 35 h rfl
    have h' : (c == 35) = false := by simpa using h
    refine LS.skip ?_
    repeat refine LS.seq ?_
    refine LS.region rfl ?_
    refine OS.pure rfl (fun _ => rfl) rfl ?_
    refine OS.pure rfl (fun _ => rfl) rfl ?_
    refine OS.pure rfl (fun _ => rfl) rfl ?_
    refine OS.nil ?_
    generalize hw : c :: t = w at *
    repeat refine LS.seq ?_
    refine LS.block ?_
    refine LS.loopJ [0, 12, 13] (fun q a L' => ∃ j : Nat, q = w.length - j ∧ j ≤ w.length ∧ (w.take j).all isP = true ∧ L' = L ∧ a = [str w, .chan none, .chan none, .chan none, .chan none, .chan none, .chan none, .chan none, .chan none, .chan none, .chan none, .chan none, .int .i64 (w.length : Nat), .int .i64 (j : Nat), .chan none, .chan none, .chan none, .chan none, .chan none, .chan none, .chan none, .chan none]) (n := w.length) rfl ⟨0, rfl, by omega, rfl, rfl, rfl⟩ ?_
    rintro q a L' ⟨j, rfl, hj, hall, rfl, rfl⟩
    repeat refine LS.seq ?_
    refine LS.region rfl ?_
    refine OS.pure rfl (fun _ => rfl) rfl ?_
    refine OS.nil ?_
    repeat refine LS.seq ?_
    refine LS.cond rfl (fun hc => ?_) (fun hc => ?_)
    · have hc : (j : Int) < w.length := lt_of hc
      have hjl : j < w.length := by omega
      refine LS.skip ?_
      repeat refine LS.seq ?_
      refine LS.block ?_
      repeat refine LS.seq ?_
      refine LS.region rfl ?_
      refine OS.pure rfl (fun _ => rfl) rfl ?_
      refine OS.pure rfl (fun _ => rfl) rfl ?_
      refine OS.nil ?_
      repeat refine LS.seq ?_
      refine LS.region rfl ?_
      refine OS.pure rfl (fun _ => rfl) rfl ?_
      refine OS.pure rfl (fun _ => rfl) rfl ?_
      refine OS.pure rfl (e_byte (s := w) (j := j) rfl rfl rfl rfl (List.getElem?_eq_getElem hjl)) rfl ?_
      refine OS.call noGo rfl (fun _ => rfl) ((isPlain_ct (w[j]'hjl)).mono ?_)
      rintro v L₂ ⟨rfl, rfl⟩
      refine ⟨_, rfl, ?_⟩
      refine OS.pure rfl (fun _ => rfl) rfl ?_
      refine OS.nil ?_
      repeat refine LS.seq ?_
      refine LS.cond rfl (fun hp => ?_) (fun hp => ?_)
      · have hp : isP (w[j]'hjl) = false := by simpa using hp
        repeat refine LS.seq ?_
        refine LS.region rfl ?_
        refine OS.pure rfl (fun _ => rfl) rfl ?_
        refine OS.nil ?_
        refine LS.ret ⟨_, fun _ _ => rfl, ?_⟩
        refine ⟨?_, rfl⟩
        have : w.all isP = false := by
          rw [List.all_eq_false]; exact ⟨_, List.getElem_mem hjl, by simp [hp]⟩
        subst hw
        simp [tupleB, ownP, h', this]
      have hp : isP (w[j]'hjl) = true := by simpa using hp
      refine LS.skip ?_
      repeat refine LS.seq ?_
      refine LS.region rfl ?_
      refine OS.pure rfl (e_add (m := (j : Int)) (n := 1) rfl rfl rfl (in_i64 (by omega) (by omega))) rfl ?_
      rw [show ((j : Nat) : Int) + 1 = ((j + 1 : Nat) : Int) by omega]
      refine OS.pure rfl (fun _ => rfl) rfl ?_
      refine OS.nil ?_
      refine ⟨w.length - (j + 1), by omega, j + 1, rfl, by omega, ?_, rfl, rfl⟩
      rw [List.take_add_one, List.getElem?_eq_getElem hjl]
      simp only [Option.toList_some, List.all_append, hall, List.all_cons, hp, List.all_nil]; rfl
    · have hc : (w.length : Int) ≤ j := nlt_of hc
      rw [List.take_of_length_le (by omega)] at hall
      refine LS.exit ?_
      repeat refine LS.seq ?_
      refine LS.region rfl ?_
      refine OS.pure rfl (fun _ => rfl) rfl ?_
      refine OS.nil ?_
      refine LS.ret ⟨_, fun _ _ => rfl, ?_⟩
      refine ⟨?_, rfl⟩
      subst hw
      simp only [ownP, h', hall]; rfl
theorem addForm_ct {F L : RL} {b : Nat} {bs : List UInt8} (t : List UInt8) (hB : BD b bs F L) (hn : bs.length ≤ 1000) (ht : t.length ≤ 9000000000000000) : CS Tryz.prog 169 [ptr b, str t] L fun v L' => ((bs ++ ownF t).length ≤ 400 ∧ v = .bool true ∧ BD b (bs ++ ownF t) F L') ∨ (¬ (bs ++ ownF t).length ≤ 400 ∧ v = .bool false ∧ ∃ bs', bs'.length ≤ 10000 ∧ BD b bs' F L') := by
  have hol := ownF_len t
  by_cases hbig : bs.length + t.length > 400
  · have hb : (!ileB (t.length : Int) (400 - (bs.length : Int))) = true := by rw [ileB_eq]; simp; omega
    refine CS.mk (fn := Tryz.f169) rfl rfl rfl rfl ?_
    repeat refine LS.seq ?_
    refine LS.region rfl ?_
    refine OS.pure rfl (fun _ => rfl) rfl ?_
    refine OS.nil ?_
    repeat refine LS.seq ?_
    refine LS.region rfl ?_
    refine OS.pure rfl (fun _ => rfl) rfl ?_
    refine OS.pure rfl (fun _ => rfl) rfl ?_
    refine OS.pure rfl (fun _ => rfl) rfl ?_
    refine OS.call noGo rfl (fun _ => rfl) ((Len_ct hB).mono ?_)
    rintro v L₁ ⟨rfl, rfl⟩
    refine ⟨_, rfl, ?_⟩
    refine OS.pure rfl (e_sub (m := 400) (n := (bs.length : Int)) rfl rfl rfl (in_i64 (by omega) (by omega))) rfl ?_
    refine OS.pure rfl (e_is (fun _ => rfl) (congrArg Value.bool hb)) rfl ?_
    refine OS.nil ?_
    repeat refine LS.seq ?_
    refine LS.cond rfl (fun h => ?_) (fun h => ?_)
    · repeat refine LS.seq ?_
      refine LS.region rfl ?_
      refine OS.pure rfl (fun _ => rfl) rfl ?_
      refine OS.nil ?_
      refine LS.ret ⟨_, fun _ _ => rfl, ?_⟩
      exact .inr ⟨by simp; omega, rfl, bs, by omega, hB⟩
    · cases h
  have hb : (!ileB (t.length : Int) (400 - (bs.length : Int))) = false := by rw [ileB_eq]; simp; omega
  refine CS.mk (fn := Tryz.f169) rfl rfl rfl rfl ?_
  repeat refine LS.seq ?_
  refine LS.region rfl ?_
  refine OS.pure rfl (fun _ => rfl) rfl ?_
  refine OS.nil ?_
  repeat refine LS.seq ?_
  refine LS.region rfl ?_
  refine OS.pure rfl (fun _ => rfl) rfl ?_
  refine OS.pure rfl (fun _ => rfl) rfl ?_
  refine OS.pure rfl (fun _ => rfl) rfl ?_
  refine OS.call noGo rfl (fun _ => rfl) ((Len_ct hB).mono ?_)
  rintro v L₁ ⟨rfl, rfl⟩
  refine ⟨_, rfl, ?_⟩
  refine OS.pure rfl (e_sub (m := 400) (n := (bs.length : Int)) rfl rfl rfl (in_i64 (by omega) (by omega))) rfl ?_
  refine OS.pure rfl (e_is (fun _ => rfl) (congrArg Value.bool hb)) rfl ?_
  refine OS.nil ?_
  repeat refine LS.seq ?_
  refine LS.cond rfl (fun h => ?_) (fun h => ?_)
  · cases h
  refine LS.skip ?_
  repeat refine LS.seq ?_
  refine LS.region rfl ?_
  refine OS.pure rfl (fun _ => rfl) rfl ?_
  refine OS.call noGo rfl (fun _ => rfl) ((isPlainWord_ct t ht).mono ?_)
  rintro v L₂ ⟨rfl, rfl⟩
  refine ⟨_, rfl, ?_⟩
  refine OS.nil ?_
  refine LS.mid [0] (fun a L' => BD b (bs ++ ownF t) F L' ∧ a = [ptr b, .chan none, .chan none, .chan none, .chan none, .chan none, .chan none, .chan none, .chan none, .chan none, .chan none, .chan none, .chan none, .chan none, .chan none, .chan none, .chan none, .chan none, .chan none, .chan none, .chan none, .chan none]) ?_ ?_
  · repeat refine LS.seq ?_
    refine LS.cond rfl (fun hp => ?_) (fun hp => ?_)
    · have hp : ownP t = true := hp
      repeat refine LS.seq ?_
      refine LS.region rfl ?_
      refine OS.pure rfl (fun _ => rfl) rfl ?_
      refine OS.pure rfl (fun _ => rfl) rfl ?_
      refine OS.call noGo rfl (fun _ => rfl) ((addBytes_ct t hB (by omega)).mono ?_)
      rintro v L₃ hB3
      refine ⟨_, rfl, ?_⟩
      refine OS.nil ?_
      exact ⟨by rw [show ownF t = t by simp [ownF, hp]]; exact hB3, rfl⟩
    · have hp : ownP t = false := hp
      repeat refine LS.seq ?_
      refine LS.region rfl ?_
      refine OS.pure rfl (fun _ => rfl) rfl ?_
      refine OS.pure rfl (fun _ => rfl) rfl ?_
      refine OS.call noGo rfl (fun _ => rfl) ((addQuoted_ct t hB (by omega)).mono ?_)
      rintro v L₃ hB3
      refine ⟨_, rfl, ?_⟩
      refine OS.nil ?_
      exact ⟨by rw [show ownF t = [34] ++ t.flatMap markE ++ [34] by simp [ownF, hp]]; exact hB3, rfl⟩
  · rintro a L₃ ⟨hB3, rfl⟩
    have hl : (bs ++ ownF t).length = bs.length + (ownF t).length := List.length_append
    repeat refine LS.seq ?_
    refine LS.region rfl ?_
    refine OS.pure rfl (fun _ => rfl) rfl ?_
    refine OS.call noGo rfl (fun _ => rfl) ((Len_ct hB3).mono ?_)
    rintro v L₄ ⟨rfl, rfl⟩
    by_cases h4 : (bs ++ ownF t).length ≤ 400
    · have b4 : ileB ((bs ++ ownF t).length : Int) 400 = true := ileB_iff.2 (by omega)
      refine ⟨_, rfl, ?_⟩
      refine OS.pure rfl (e_is (fun _ => rfl) (congrArg Value.bool b4)) rfl ?_
      refine OS.pure rfl (fun _ => rfl) rfl ?_
      refine OS.nil ?_
      refine LS.ret ⟨_, fun _ _ => rfl, ?_⟩
      exact .inl ⟨h4, rfl, hB3⟩
    · have b4 : ileB ((bs ++ ownF t).length : Int) 400 = false := by rw [ileB_eq]; simp only [decide_eq_false_iff_not]; omega
      refine ⟨_, rfl, ?_⟩
      refine OS.pure rfl (e_is (fun _ => rfl) (congrArg Value.bool b4)) rfl ?_
      refine OS.pure rfl (fun _ => rfl) rfl ?_
      refine OS.nil ?_
      refine LS.ret ⟨_, fun _ _ => rfl, ?_⟩
      exact .inr ⟨h4, rfl, _, by omega, hB3⟩
end Go.Proofs.YtllcbjaajffaeaaGreatDoor
