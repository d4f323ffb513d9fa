/- Layer 2: what marks tell. -/
import Derived.Test.YtmdcfnnoeimakaaGreatDoorWc
namespace Go.Proofs.YtmdcfnnoeimakaaGreatDoor
open Go.Am
set_option linter.unusedVariables false
set_option maxRecDepth 20000

/-! ### What the chapter says of bytes -/
def isP (c : UInt8) : Bool := (decide (32 < c.toNat) && decide (c.toNat ≤ 126)) && !(c == 34)
def isS (c : UInt8) : Bool := decide (32 ≤ c.toNat) && decide (c.toNat ≤ 126)
def hexN (n : Nat) : Option Nat := if 48 ≤ n ∧ n ≤ 57 then some (n - 48) else if 97 ≤ n ∧ n ≤ 102 then some (n - 87) else none
theorem hexN_lt {n v : Nat} (h : hexN n = some v) : v < 16 := by
  unfold hexN at h
  split at h
  · simp at h; omega
  · split at h
    · simp at h; omega
    · cases h
def plainK : List UInt8 → UInt8 × Nat
  | [] => (0, 0)
  | c :: _ => if isP c then (c, 1) else (0, 0)
def hexK : List UInt8 → UInt8 × Nat
  | _ :: _ :: x :: y :: _ => match hexN x.toNat, hexN y.toNat with
    | some h, some l => (UInt8.ofNat (16 * h + l), 4)
    | _, _ => (0, 0)
  | _ => (0, 0)
def escK : List UInt8 → UInt8 × Nat
  | a :: c :: s => if c = 34 ∨ c = 92 then (c, 2) else if c = 110 then (10, 2) else if c = 116 then (9, 2) else if c = 120 then hexK (a :: c :: s) else (0, 0)
  | _ => (0, 0)
def markK : List UInt8 → UInt8 × Nat
  | [] => (0, 0)
  | c :: s => if isS c then if c = 34 then (0, 0) else if c = 92 then escK (c :: s) else (c, 1) else (0, 0)
abbrev two (p : UInt8 × Nat) : Value := .tuple #[.int .u8 (p.1.toNat : Nat), .int .i64 (p.2 : Nat)]
theorem u8_of {c : UInt8} {k : Int} (h : (c.toNat : Int) = k) : c = UInt8.ofNat k.toNat := by
  rw [← h, Int.toNat_natCast, UInt8.ofNat_toNat]
theorem u8_ne {c k : UInt8} (h : (c.toNat : Int) ≠ (k.toNat : Nat)) : c ≠ k := fun e => h (by rw [e])

theorem isPlain_ct {L : RL} (c : UInt8) : CS Tryz.prog 141 [.int .u8 (c.toNat : Nat)] L fun v L' => v = .bool (isP c) ∧ L' = L := by
  refine CS.mk (fn := Tryz.f141) rfl rfl rfl rfl ?_
  repeat refine LS.seq ?_
  refine LS.region rfl ?_
  refine OS.pure rfl (fun _ => rfl) rfl ?_
  refine OS.nil ?_
  by_cases h1 : 32 < c.toNat
  · have b1 : (!ileB (c.toNat : Int) 32) = true := by rw [ileB_eq]; simp; omega
    by_cases h2 : c.toNat ≤ 126
    · have b2 : ileB (c.toNat : Int) 126 = true := by rw [ileB_eq]; simp; omega
      have b3 : (!ieqB (c.toNat : Int) 34) = !(c == 34) := by
        rw [ieqB_eq]
        congr 1
        rw [Bool.eq_iff_iff]
        simp [← UInt8.toNat_inj]; omega
      repeat refine LS.seq ?_
      refine LS.region rfl ?_
      refine OS.pure rfl (fun _ => rfl) rfl ?_
      refine OS.pure rfl (e_is (fun _ => rfl) (congrArg Value.bool b1)) rfl ?_
      refine OS.pure rfl (fun _ => rfl) rfl ?_
      refine OS.pure rfl (fun _ => rfl) rfl ?_
      refine OS.pure rfl (e_is (fun _ => rfl) (congrArg Value.bool b2)) rfl ?_
      refine OS.pure rfl (fun _ => rfl) rfl ?_
      refine OS.pure rfl (fun _ => rfl) rfl ?_
      refine OS.pure rfl (fun _ => rfl) rfl ?_
      refine OS.pure rfl (e_is (fun _ => rfl) (congrArg Value.bool b3)) rfl ?_
      refine OS.pure rfl (fun _ => rfl) rfl ?_
      refine OS.pure rfl (fun _ => rfl) rfl ?_
      refine OS.nil ?_
      refine LS.ret ⟨_, fun _ _ => rfl, ?_⟩
      exact ⟨by simp [tupleB, isP, h1, h2], rfl⟩
    · have b2 : ileB (c.toNat : Int) 126 = false := by rw [ileB_eq]; simp; omega
      repeat refine LS.seq ?_
      refine LS.region rfl ?_
      refine OS.pure rfl (fun _ => rfl) rfl ?_
      refine OS.pure rfl (e_is (fun _ => rfl) (congrArg Value.bool b1)) rfl ?_
      refine OS.pure rfl (fun _ => rfl) rfl ?_
      refine OS.pure rfl (fun _ => rfl) rfl ?_
      refine OS.pure rfl (e_is (fun _ => rfl) (congrArg Value.bool b2)) rfl ?_
      refine OS.pure rfl (fun _ => rfl) rfl ?_
      refine OS.pure rfl (fun _ => rfl) rfl ?_
      refine OS.skip rfl rfl ?_
      refine OS.skip rfl rfl ?_
      refine OS.pure rfl (fun _ => rfl) rfl ?_
      refine OS.pure rfl (fun _ => rfl) rfl ?_
      refine OS.nil ?_
      refine LS.ret ⟨_, fun _ _ => rfl, ?_⟩
      exact ⟨by simp [tupleB, isP, h1, h2], rfl⟩
  · have b1 : (!ileB (c.toNat : Int) 32) = false := by rw [ileB_eq]; simp; omega
    repeat refine LS.seq ?_
    refine LS.region rfl ?_
    refine OS.pure rfl (fun _ => rfl) rfl ?_
    refine OS.pure rfl (e_is (fun _ => rfl) (congrArg Value.bool b1)) rfl ?_
    refine OS.pure rfl (fun _ => rfl) rfl ?_
    refine OS.skip rfl rfl ?_
    refine OS.skip rfl rfl ?_
    refine OS.pure rfl (fun _ => rfl) rfl ?_
    refine OS.pure rfl (fun _ => rfl) rfl ?_
    refine OS.skip rfl rfl ?_
    refine OS.skip rfl rfl ?_
    refine OS.pure rfl (fun _ => rfl) rfl ?_
    refine OS.pure rfl (fun _ => rfl) rfl ?_
    refine OS.nil ?_
    refine LS.ret ⟨_, fun _ _ => rfl, ?_⟩
    exact ⟨by simp [tupleB, isP, h1], rfl⟩
theorem isShown_ct {L : RL} (c : UInt8) : CS Tryz.prog 142 [.int .u8 (c.toNat : Nat)] L fun v L' => v = .bool (isS c) ∧ L' = L := by
  refine CS.mk (fn := Tryz.f142) rfl rfl rfl rfl ?_
  repeat refine LS.seq ?_
  refine LS.region rfl ?_
  refine OS.pure rfl (fun _ => rfl) rfl ?_
  refine OS.nil ?_
  by_cases h1 : 32 ≤ c.toNat
  · have b1 : ileB 32 (c.toNat : Int) = true := by rw [ileB_eq]; simp; omega
    have b2 : ileB (c.toNat : Int) 126 = decide (c.toNat ≤ 126) := by rw [ileB_eq, Bool.eq_iff_iff]; simp; omega
    repeat refine LS.seq ?_
    refine LS.region rfl ?_
    refine OS.pure rfl (fun _ => rfl) rfl ?_
    refine OS.pure rfl (e_is (fun _ => rfl) (congrArg Value.bool b1)) rfl ?_
    refine OS.pure rfl (fun _ => rfl) rfl ?_
    refine OS.pure rfl (fun _ => rfl) rfl ?_
    refine OS.pure rfl (e_is (fun _ => rfl) (congrArg Value.bool b2)) rfl ?_
    refine OS.pure rfl (fun _ => rfl) rfl ?_
    refine OS.pure rfl (fun _ => rfl) rfl ?_
    refine OS.nil ?_
    refine LS.ret ⟨_, fun _ _ => rfl, ?_⟩
    exact ⟨by simp [tupleB, isS, h1], rfl⟩
  · have b1 : ileB 32 (c.toNat : Int) = false := by rw [ileB_eq]; simp; omega
    repeat refine LS.seq ?_
    refine LS.region rfl ?_
    refine OS.pure rfl (fun _ => rfl) rfl ?_
    refine OS.pure rfl (e_is (fun _ => rfl) (congrArg Value.bool b1)) rfl ?_
    refine OS.pure rfl (fun _ => rfl) rfl ?_
    refine OS.skip rfl rfl ?_
    refine OS.skip rfl rfl ?_
    refine OS.pure rfl (fun _ => rfl) rfl ?_
    refine OS.pure rfl (fun _ => rfl) rfl ?_
    refine OS.nil ?_
    refine LS.ret ⟨_, fun _ _ => rfl, ?_⟩
    exact ⟨by simp [tupleB, isS, h1], rfl⟩
theorem plainAt_ct {L : RL} (s : List UInt8) : CS Tryz.prog 125 [str s] L fun v L' => v = two (plainK s) ∧ L' = L := by
  cases s with
  | nil =>
    refine CS.mk (fn := Tryz.f125) rfl rfl rfl rfl ?_
    repeat refine LS.seq ?_
    refine LS.region rfl ?_
    refine OS.pure rfl (fun _ => rfl) rfl ?_
    refine OS.pure rfl (fun _ => rfl) rfl ?_
    refine OS.nil ?_
    repeat refine LS.seq ?_
    refine LS.region rfl ?_
    refine OS.pure rfl (fun _ => rfl) rfl ?_
    refine OS.pure rfl (fun _ => rfl) rfl ?_
    refine OS.pure rfl (fun _ => rfl) rfl ?_
    refine OS.skip rfl rfl ?_
    refine OS.skip rfl rfl ?_
    refine OS.skip rfl rfl ?_
    refine OS.skip rfl rfl ?_
    refine OS.pure rfl (fun _ => rfl) rfl ?_
    refine OS.nil ?_
    repeat refine LS.seq ?_
    refine LS.cond rfl (fun hc => ?_) (fun hc => ?_)
    · repeat refine LS.seq ?_
      refine LS.region rfl ?_
      refine OS.pure rfl (fun _ => rfl) rfl ?_
      refine OS.pure rfl (fun _ => rfl) rfl ?_
      refine OS.nil ?_
      refine LS.ret ⟨_, fun _ _ => rfl, ?_⟩
      exact ⟨rfl, rfl⟩
    · cases hc
  | cons c s =>
    refine CS.mk (fn := Tryz.f125) rfl rfl rfl rfl ?_
    repeat refine LS.seq ?_
    refine LS.region rfl ?_
    refine OS.pure rfl (fun _ => rfl) rfl ?_
    refine OS.pure rfl (fun _ => rfl) rfl ?_
    refine OS.nil ?_
    repeat refine LS.seq ?_
    refine LS.region rfl ?_
    refine OS.pure rfl (fun _ => rfl) rfl ?_
    refine OS.pure rfl (fun _ => rfl) rfl ?_
    refine OS.pure rfl (fun _ => rfl) rfl ?_
    refine OS.pure rfl (fun _ => rfl) rfl ?_
    refine OS.pure rfl (e_byte (j := 0) rfl rfl rfl rfl rfl) rfl ?_
    refine OS.call noGo rfl (fun _ => rfl) ((isPlain_ct c).mono ?_)
    rintro v L' ⟨rfl, rfl⟩
    refine ⟨_, rfl, ?_⟩
    refine OS.pure rfl (fun _ => rfl) rfl ?_
    refine OS.pure rfl (fun _ => rfl) rfl ?_
    refine OS.nil ?_
    repeat refine LS.seq ?_
    refine LS.cond rfl (fun hc => ?_) (fun hc => ?_)
    · have hc : isP c = false := by simpa using hc
      repeat refine LS.seq ?_
      refine LS.region rfl ?_
      refine OS.pure rfl (fun _ => rfl) rfl ?_
      refine OS.pure rfl (fun _ => rfl) rfl ?_
      refine OS.nil ?_
      refine LS.ret ⟨_, fun _ _ => rfl, ?_⟩
      exact ⟨by simp [tupleB, plainK, hc], rfl⟩
    · have hc : isP c = true := by simpa using hc
      refine LS.skip ?_
      repeat refine LS.seq ?_
      refine LS.region rfl ?_
      refine OS.pure rfl (fun _ => rfl) rfl ?_
      refine OS.pure rfl (e_byte (j := 0) rfl rfl rfl rfl rfl) rfl ?_
      refine OS.pure rfl (fun _ => rfl) rfl ?_
      refine OS.pure rfl (fun _ => rfl) rfl ?_
      refine OS.nil ?_
      refine LS.ret ⟨_, fun _ _ => rfl, ?_⟩
      exact ⟨by simp [tupleB, plainK, hc], rfl⟩

/-! ### The digits' map -/
def hexS : List UInt8 := [48, 49, 50, 51, 52, 53, 54, 55, 56, 57, 97, 98, 99, 100, 101, 102]
def hexC (i : Nat) : UInt8 := hexS.getD i 0
def digE (n : Nat) : List MapEntry := (List.range n).map fun i => ⟨.int .u8 ((hexC i).toNat : Nat), .int .u8 (i : Nat), i⟩
abbrev dg (rm : Nat) (F : RL) : RL := (rm, .map (digE 16) 16) :: F
theorem sixteen {p : Nat → Prop} (h : p 0 ∧ p 1 ∧ p 2 ∧ p 3 ∧ p 4 ∧ p 5 ∧ p 6 ∧ p 7 ∧ p 8 ∧ p 9 ∧ p 10 ∧ p 11 ∧ p 12 ∧ p 13 ∧ p 14 ∧ p 15) {i : Nat} (hi : i < 16) : p i := by
  obtain ⟨h0, h1, h2, h3, h4, h5, h6, h7, h8, h9, h10, h11, h12, h13, h14, h15⟩ := h
  have : i = 0 ∨ i = 1 ∨ i = 2 ∨ i = 3 ∨ i = 4 ∨ i = 5 ∨ i = 6 ∨ i = 7 ∨ i = 8 ∨ i = 9 ∨ i = 10 ∨ i = 11 ∨ i = 12 ∨ i = 13 ∨ i = 14 ∨ i = 15 := by omega
  rcases this with rfl | rfl | rfl | rfl | rfl | rfl | rfl | rfl | rfl | rfl | rfl | rfl | rfl | rfl | rfl | rfl <;> assumption
theorem dig_new {i : Nat} (hi : i < 16) : findB (.int .u8 ((hexC i).toNat : Nat)) (digE i) 0 = some none ∧ addE ⟨.int .u8 ((hexC i).toNat : Nat), .int .u8 (i : Nat), i⟩ (digE i) = digE (i + 1) ∧ hexS[i]? = some (hexC i) :=
  sixteen (p := fun i => findB (.int .u8 ((hexC i).toNat : Nat)) (digE i) 0 = some none ∧ addE ⟨.int .u8 ((hexC i).toNat : Nat), .int .u8 (i : Nat), i⟩ (digE i) = digE (i + 1) ∧ hexS[i]? = some (hexC i)) ⟨⟨rfl, rfl, rfl⟩, ⟨rfl, rfl, rfl⟩, ⟨rfl, rfl, rfl⟩, ⟨rfl, rfl, rfl⟩, ⟨rfl, rfl, rfl⟩, ⟨rfl, rfl, rfl⟩, ⟨rfl, rfl, rfl⟩, ⟨rfl, rfl, rfl⟩, ⟨rfl, rfl, rfl⟩, ⟨rfl, rfl, rfl⟩, ⟨rfl, rfl, rfl⟩, ⟨rfl, rfl, rfl⟩, ⟨rfl, rfl, rfl⟩, ⟨rfl, rfl, rfl⟩, ⟨rfl, rfl, rfl⟩, ⟨rfl, rfl, rfl⟩⟩ hi
def digG (n : Nat) : Bool := match findB (.int .u8 (n : Int)) (digE 16) 0 with
  | some (some (_, .int .u8 v)) => match hexN n with
    | some u => v == (u : Int)
    | none => false
  | some none => match hexN n with
    | none => true
    | some _ => false
  | _ => false
theorem digG_all : (List.range 256).all digG = true := by kernel_rfl
theorem dig_at (c : UInt8) : (match hexN c.toNat with | some u => ∃ i, findB (.int .u8 (c.toNat : Nat)) (digE 16) 0 = some (some (i, .int .u8 (u : Nat))) | none => findB (.int .u8 (c.toNat : Nat)) (digE 16) 0 = some none) := by
  have h := List.all_eq_true.1 digG_all c.toNat (List.mem_range.2 c.toNat_lt)
  unfold digG at h
  split at h
  · rename_i i v hf
    split at h
    · rename_i u hu
      have : v = (u : Int) := by simpa using h
      subst this
      exact ⟨_, hf⟩
    · cases h
  · rename_i hf
    split at h
    · rename_i hu
      rw [hu]; exact hf
    · cases h
  · cases h
theorem digits_ct {L : RL} : CS Tryz.prog 95 [] L fun v L' => ∃ rm, v = .map (some rm) ∧ L' = dg rm L := by
  refine CS.mk (fn := Tryz.f95) rfl rfl rfl rfl ?_
  repeat refine LS.seq ?_
  refine LS.region rfl ?_
  refine OS.pure rfl (fun _ => rfl) rfl ?_
  refine OS.nil ?_
  repeat refine LS.seq ?_
  refine LS.region rfl ?_
  refine OS.fresh rfl (e_makeMap rfl rfl rfl) (fun _ => rfl) (fun rm => ?_)
  refine OS.pure rfl (fun _ => rfl) rfl ?_
  refine OS.nil ?_
  repeat refine LS.seq ?_
  refine LS.region rfl ?_
  refine OS.pure rfl (fun _ => rfl) rfl ?_
  refine OS.nil ?_
  repeat refine LS.seq ?_
  refine LS.block ?_
  refine LS.loopJ [1, 4] (fun q a L' => ∃ i : Nat, q = 16 - i ∧ i ≤ 16 ∧ L' = (rm, .map (digE i) i) :: L ∧ a = [.chan none, .map (some rm), .chan none, .chan none, .int .i64 (i : Nat), .chan none, .chan none, .chan none, .chan none, .chan none, .chan none, .chan none, .chan none, .chan none]) (n := 16) rfl ⟨0, rfl, by omega, rfl, rfl⟩ ?_
  rintro q a L' ⟨i, rfl, hi, rfl, rfl⟩
  repeat refine LS.seq ?_
  refine LS.region rfl ?_
  refine OS.pure rfl (fun _ => rfl) rfl ?_
  refine OS.nil ?_
  repeat refine LS.seq ?_
  refine LS.cond rfl (fun hc => ?_) (fun hc => ?_)
  · have hc : (i : Int) < 16 := lt_of hc
    have hi : i < 16 := by omega
    obtain ⟨d1, d2, d3⟩ := dig_new hi
    refine LS.skip ?_
    repeat refine LS.seq ?_
    refine LS.block ?_
    repeat refine LS.seq ?_
    refine LS.region rfl ?_
    refine OS.pure rfl (fun _ => rfl) rfl ?_
    refine OS.pure rfl (fun _ => rfl) rfl ?_
    refine OS.nil ?_
    repeat refine LS.seq ?_
    refine LS.region rfl ?_
    refine OS.pure rfl (fun _ => rfl) rfl ?_
    refine OS.pure rfl (fun _ => rfl) rfl ?_
    refine OS.pure rfl (e_byte (s := hexS) rfl rfl rfl rfl d3) rfl ?_
    refine OS.pure rfl (fun _ => rfl) rfl ?_
    refine OS.pure rfl (e_conv rfl rfl rfl rfl (in_u8 (by omega) (by omega))) rfl ?_
    refine OS.write rfl (e_mapUpdate 0 (es2 := digE (i + 1)) (clock2 := i + 1) rfl rfl rfl rfl rfl rfl rfl (by rw [d1]; simp only []; rw [d2]) rfl) rfl ?_
    refine OS.nil ?_
    repeat refine LS.seq ?_
    refine LS.region rfl ?_
    refine OS.pure rfl (e_add (n := 1) rfl rfl rfl (in_i64 (by omega) (by omega))) rfl ?_
    refine OS.pure rfl (fun _ => rfl) rfl ?_
    refine OS.nil ?_
    exact ⟨16 - (i + 1), by omega, i + 1, rfl, by omega, rfl, rfl⟩
  · have hc : (16 : Int) ≤ i := nlt_of hc
    have h16 : i = 16 := by omega
    subst h16
    refine LS.exit ?_
    repeat refine LS.seq ?_
    refine LS.region rfl ?_
    refine OS.pure rfl (fun _ => rfl) rfl ?_
    refine OS.pure rfl (fun _ => rfl) rfl ?_
    refine OS.nil ?_
    refine LS.ret ⟨_, fun _ _ => rfl, ?_⟩
    exact ⟨rm, rfl, rfl⟩

/-! ### Marks -/
def hexT (c : UInt8) : Value := match hexN c.toNat with
  | some u => .tuple #[.int .u8 (u : Nat), .bool true]
  | none => .tuple #[.int .u8 0, .bool false]
theorem dig_look {z : Value} (c : UInt8) : (match findB (.int .u8 (c.toNat : Nat)) (digE 16) 0 with | some (some (_, v)) => some (okTuple true v true) | some none => (match zeroVB Tryz.prog 5 with | some z => some (okTuple true z false) | none => none) | none => none) = some (hexT c) := by
  have h := dig_at c
  unfold hexT
  split at h
  · obtain ⟨i, h⟩ := h
    rw [h]; rfl
  · rw [h]; rfl
theorem hexAt_ct {L : RL} {rm : Nat} (hm : (rm, .map (digE 16) 16) ∈ L) (s : List UInt8) (hs : s.length ≤ 9000000000000000) : CS Tryz.prog 153 [str s, .map (some rm)] L fun v L' => v = two (hexK s) ∧ L' = L := by
  obtain ⟨iq, hq⟩ := List.mem_iff_getElem?.1 hm
  by_cases hl : s.length < 4
  · have hk : hexK s = (0, 0) := by
      match s, hl with
      | [], _ => rfl
      | [_], _ => rfl
      | [_, _], _ => rfl
      | [_, _, _], _ => rfl
    have b1 : (!ileB 4 (s.length : Int)) = true := by rw [ileB_eq]; simp; omega
    refine CS.mk (fn := Tryz.f153) rfl rfl rfl rfl ?_
    repeat refine LS.seq ?_
    refine LS.region rfl ?_
    refine OS.pure rfl (fun _ => rfl) rfl ?_
    refine OS.pure rfl (fun _ => rfl) rfl ?_
    refine OS.nil ?_
    repeat refine LS.seq ?_
    refine LS.region rfl ?_
    refine OS.pure rfl (fun _ => rfl) rfl ?_
    refine OS.pure rfl (fun _ => rfl) rfl ?_
    refine OS.pure rfl (e_is (fun _ => rfl) (congrArg Value.bool b1)) rfl ?_
    refine OS.nil ?_
    repeat refine LS.seq ?_
    refine LS.cond rfl (fun hc => ?_) (fun hc => ?_)
    · repeat refine LS.seq ?_
      refine LS.region rfl ?_
      refine OS.pure rfl (fun _ => rfl) rfl ?_
      refine OS.pure rfl (fun _ => rfl) rfl ?_
      refine OS.nil ?_
      refine LS.ret ⟨_, fun _ _ => rfl, ?_⟩
      exact ⟨by rw [hk]; rfl, rfl⟩
    · cases hc
  · obtain ⟨c0, c1, x, y, t, rfl⟩ : ∃ c0 c1 x y t, s = c0 :: c1 :: x :: y :: t := by
      match s, hl with
      | [], h => simp at h
      | [_], h => simp at h
      | [_, _], h => simp at h
      | [_, _, _], h => simp at h
      | c0 :: c1 :: x :: y :: t, _ => exact ⟨c0, c1, x, y, t, rfl⟩
    have b1 : (!ileB 4 ((c0 :: c1 :: x :: y :: t).length : Int)) = false := by rw [ileB_eq]; simp; omega
    refine CS.mk (fn := Tryz.f153) rfl rfl rfl rfl ?_
    repeat refine LS.seq ?_
    refine LS.region rfl ?_
    refine OS.pure rfl (fun _ => rfl) rfl ?_
    refine OS.pure rfl (fun _ => rfl) rfl ?_
    refine OS.nil ?_
    repeat refine LS.seq ?_
    refine LS.region rfl ?_
    refine OS.pure rfl (fun _ => rfl) rfl ?_
    refine OS.pure rfl (fun _ => rfl) rfl ?_
    refine OS.pure rfl (e_is (fun _ => rfl) (congrArg Value.bool b1)) rfl ?_
    refine OS.nil ?_
    repeat refine LS.seq ?_
    refine LS.cond rfl (fun hc => ?_) (fun hc => ?_)
    · cases hc
    refine LS.skip ?_
    repeat refine LS.seq ?_
    refine LS.region rfl ?_
    refine OS.pure rfl (fun _ => rfl) rfl ?_
    refine OS.pure rfl (fun _ => rfl) rfl ?_
    refine OS.pure rfl (e_byte (j := 2) rfl rfl rfl rfl rfl) rfl ?_
    refine OS.read rfl (e_lookup iq (ok := true) (kt := 5) (et := 5) rfl rfl rfl rfl rfl hq (dig_look (z := .nilFunc) x)) rfl ?_
    cases hx : hexN x.toNat with
    | none =>
      have e1 : hexT x = .tuple #[.int .u8 0, .bool false] := by unfold hexT; rw [hx]
      have hk : hexK (c0 :: c1 :: x :: y :: t) = (0, 0) := by simp [hexK, hx]
      rw [e1]
      refine OS.pure rfl (fun _ => rfl) rfl ?_
      refine OS.pure rfl (fun _ => rfl) rfl ?_
      refine OS.pure rfl (fun _ => rfl) rfl ?_
      refine OS.pure rfl (fun _ => rfl) rfl ?_
      refine OS.pure rfl (fun _ => rfl) rfl ?_
      refine OS.nil ?_
      repeat refine LS.seq ?_
      refine LS.region rfl ?_
      refine OS.pure rfl (fun _ => rfl) rfl ?_
      refine OS.pure rfl (fun _ => rfl) rfl ?_
      refine OS.pure rfl (e_byte (j := 3) rfl rfl rfl rfl rfl) rfl ?_
      refine OS.read rfl (e_lookup iq (ok := true) (kt := 5) (et := 5) rfl rfl rfl rfl rfl hq (dig_look (z := .nilFunc) y)) rfl ?_
      have e2 : ∃ u b, hexT y = .tuple #[.int .u8 u, .bool b] := by unfold hexT; split <;> exact ⟨_, _, rfl⟩
      obtain ⟨u, b, e2⟩ := e2
      rw [e2]
      refine OS.pure rfl (fun _ => rfl) rfl ?_
      refine OS.pure rfl (fun _ => rfl) rfl ?_
      refine OS.pure rfl (fun _ => rfl) rfl ?_
      refine OS.pure rfl (fun _ => rfl) rfl ?_
      refine OS.pure rfl (fun _ => rfl) rfl ?_
      refine OS.nil ?_
      repeat refine LS.seq ?_
      refine LS.region rfl ?_
      refine OS.pure rfl (fun _ => rfl) rfl ?_
      refine OS.pure rfl (fun _ => rfl) rfl ?_
      refine OS.pure rfl (fun _ => rfl) rfl ?_
      refine OS.skip rfl rfl ?_
      refine OS.skip rfl rfl ?_
      refine OS.pure rfl (fun _ => rfl) rfl ?_
      refine OS.nil ?_
      repeat refine LS.seq ?_
      refine LS.cond rfl (fun hc => ?_) (fun hc => ?_)
      · repeat refine LS.seq ?_
        refine LS.region rfl ?_
        refine OS.pure rfl (fun _ => rfl) rfl ?_
        refine OS.pure rfl (fun _ => rfl) rfl ?_
        refine OS.nil ?_
        refine LS.ret ⟨_, fun _ _ => rfl, ?_⟩
        exact ⟨by rw [hk]; rfl, rfl⟩
      · cases hc
    | some u =>
      have e1 : hexT x = .tuple #[.int .u8 (u : Nat), .bool true] := by unfold hexT; rw [hx]
      have hu := hexN_lt hx
      rw [e1]
      refine OS.pure rfl (fun _ => rfl) rfl ?_
      refine OS.pure rfl (fun _ => rfl) rfl ?_
      refine OS.pure rfl (fun _ => rfl) rfl ?_
      refine OS.pure rfl (fun _ => rfl) rfl ?_
      refine OS.pure rfl (fun _ => rfl) rfl ?_
      refine OS.nil ?_
      repeat refine LS.seq ?_
      refine LS.region rfl ?_
      refine OS.pure rfl (fun _ => rfl) rfl ?_
      refine OS.pure rfl (fun _ => rfl) rfl ?_
      refine OS.pure rfl (e_byte (j := 3) rfl rfl rfl rfl rfl) rfl ?_
      refine OS.read rfl (e_lookup iq (ok := true) (kt := 5) (et := 5) rfl rfl rfl rfl rfl hq (dig_look (z := .nilFunc) y)) rfl ?_
      cases hy : hexN y.toNat with
      | none =>
        have e2 : hexT y = .tuple #[.int .u8 0, .bool false] := by unfold hexT; rw [hy]
        have hk : hexK (c0 :: c1 :: x :: y :: t) = (0, 0) := by simp [hexK, hx, hy]
        rw [e2]
        refine OS.pure rfl (fun _ => rfl) rfl ?_
        refine OS.pure rfl (fun _ => rfl) rfl ?_
        refine OS.pure rfl (fun _ => rfl) rfl ?_
        refine OS.pure rfl (fun _ => rfl) rfl ?_
        refine OS.pure rfl (fun _ => rfl) rfl ?_
        refine OS.nil ?_
        repeat refine LS.seq ?_
        refine LS.region rfl ?_
        refine OS.pure rfl (fun _ => rfl) rfl ?_
        refine OS.pure rfl (fun _ => rfl) rfl ?_
        refine OS.pure rfl (fun _ => rfl) rfl ?_
        refine OS.pure rfl (fun _ => rfl) rfl ?_
        refine OS.pure rfl (fun _ => rfl) rfl ?_
        refine OS.pure rfl (fun _ => rfl) rfl ?_
        refine OS.nil ?_
        repeat refine LS.seq ?_
        refine LS.cond rfl (fun hc => ?_) (fun hc => ?_)
        · repeat refine LS.seq ?_
          refine LS.region rfl ?_
          refine OS.pure rfl (fun _ => rfl) rfl ?_
          refine OS.pure rfl (fun _ => rfl) rfl ?_
          refine OS.nil ?_
          refine LS.ret ⟨_, fun _ _ => rfl, ?_⟩
          exact ⟨by rw [hk]; rfl, rfl⟩
        · cases hc
      | some w =>
        have e2 : hexT y = .tuple #[.int .u8 (w : Nat), .bool true] := by unfold hexT; rw [hy]
        have hw := hexN_lt hy
        have hk : hexK (c0 :: c1 :: x :: y :: t) = (UInt8.ofNat (16 * u + w), 4) := by simp [hexK, hx, hy]
        have hv : ((16 * u + w : Nat) : Int) = ((UInt8.ofNat (16 * u + w)).toNat : Nat) := by
          rw [UInt8.toNat_ofNat']; omega
        rw [e2]
        refine OS.pure rfl (fun _ => rfl) rfl ?_
        refine OS.pure rfl (fun _ => rfl) rfl ?_
        refine OS.pure rfl (fun _ => rfl) rfl ?_
        refine OS.pure rfl (fun _ => rfl) rfl ?_
        refine OS.pure rfl (fun _ => rfl) rfl ?_
        refine OS.nil ?_
        repeat refine LS.seq ?_
        refine LS.region rfl ?_
        refine OS.pure rfl (fun _ => rfl) rfl ?_
        refine OS.pure rfl (fun _ => rfl) rfl ?_
        refine OS.pure rfl (fun _ => rfl) rfl ?_
        refine OS.pure rfl (fun _ => rfl) rfl ?_
        refine OS.pure rfl (fun _ => rfl) rfl ?_
        refine OS.pure rfl (fun _ => rfl) rfl ?_
        refine OS.nil ?_
        repeat refine LS.seq ?_
        refine LS.cond rfl (fun hc => ?_) (fun hc => ?_)
        · cases hc
        refine LS.skip ?_
        repeat refine LS.seq ?_
        refine LS.region rfl ?_
        refine OS.pure rfl (fun _ => rfl) rfl ?_
        refine OS.pure rfl (e_mul (m := 16) (n := (u : Int)) rfl rfl rfl (in_u8 (by omega) (by omega))) rfl ?_
        refine OS.pure rfl (fun _ => rfl) rfl ?_
        refine OS.pure rfl (e_add (m := 16 * (u : Int)) (n := (w : Int)) rfl rfl rfl (in_u8 (by omega) (by omega))) rfl ?_
        refine OS.pure rfl (fun _ => rfl) rfl ?_
        refine OS.pure rfl (fun _ => rfl) rfl ?_
        refine OS.nil ?_
        refine LS.ret ⟨_, fun _ _ => rfl, ?_⟩
        refine ⟨?_, rfl⟩
        rw [hk]
        show Value.tuple #[.int .u8 (16 * (u : Int) + w), .int .i64 4] = _
        rw [show (16 * (u : Int) + w) = ((16 * u + w : Nat) : Int) by omega, hv]
        rfl
end Go.Proofs.YtmdcfnnoeimakaaGreatDoor
