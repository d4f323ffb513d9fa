/- Layer 5: what the calls of package freemap come to: Take, Claim, Drop, Free. -/
import Derived.Test.YteiiekfccecoiaaBFb
namespace Go.Proofs.Yteiiekfccecoiaa.Z
open Go.Am
set_option linter.unusedVariables false
set_option maxRecDepth 20000

def takeI (T : List Bool) : Nat := if ff T < T.length then ff T else 0
def takeE (T : List Bool) : Int := if ff T < T.length then 0 else 3
def takeS (T : List Bool) : List Bool := if ff T < T.length then T.set (ff T) true else T
def claimE (T : List Bool) (i : Int) : Int := if 0 ≤ i ∧ i < T.length then (if tkn T i.toNat then 6 else 0) else 1
def claimS (T : List Bool) (i : Int) : List Bool := if claimE T i = 0 then T.set i.toNat true else T
def dropE (T : List Bool) (i : Int) : Int := if 0 ≤ i ∧ i < T.length then (if tkn T i.toNat then 0 else 5) else 1
def dropS (T : List Bool) (i : Int) : List Bool := if dropE T i = 0 then T.set i.toNat false else T
theorem takeS_len (T : List Bool) : (takeS T).length = T.length := by unfold takeS; split <;> simp
theorem claimS_len (T : List Bool) (i : Int) : (claimS T i).length = T.length := by unfold claimS; split <;> simp
theorem dropS_len (T : List Bool) (i : Int) : (dropS T i).length = T.length := by unfold dropS; split <;> simp

/-! ### The tables of package bits -/
def tz8 : List UInt8 := (List.range 256).map fun x => UInt8.ofNat (fz (UInt8.ofNat (255 ^^^ x)))
def pop8 : List UInt8 := (List.range 256).map fun x => UInt8.ofNat (pc (UInt8.ofNat x))
theorem fz_le (c : UInt8) : fz c ≤ 8 := by
  have := List.findIdx_le_length (p := fun k => !tb c k) (xs := List.range 8)
  rw [List.length_range] at this
  exact this
theorem tz8_at (c : UInt8) : tz8[255 ^^^ c.toNat]? = some (UInt8.ofNat (fz c)) := by
  have hlt : 255 ^^^ c.toNat < 256 := Nat.xor_lt_two_pow (n := 8) (by decide) (UInt8.toNat_lt c)
  unfold tz8
  rw [List.getElem?_map, List.getElem?_range hlt, Option.map_some]
  have : 255 ^^^ (255 ^^^ c.toNat) = c.toNat := by rw [← Nat.xor_assoc, Nat.xor_self, Nat.zero_xor]
  rw [this]
  simp
theorem pop8_at (c : UInt8) : pop8[c.toNat]? = some (UInt8.ofNat (pc c)) := by
  unfold pop8
  rw [List.getElem?_map, List.getElem?_range (UInt8.toNat_lt c), Option.map_some]
  simp
theorem Ones_ct {L : RL} (c : UInt8) : CS Try.prog 55 [.int .u8 (c.toNat : Nat)] L fun v L' => v = .int .i64 (pc c : Nat) ∧ L' = L := by
  have h8 : (UInt8.ofNat (pc c)).toNat = pc c := toNat_of (by have := pc_le c; omega)
  refine CS.mk (fn := Try.f55) rfl rfl rfl rfl ?_
  repeat refine LS.seq ?_
  refine LS.region rfl ?_
  refine OS.pure rfl (fun _ => rfl) rfl ?_
  refine OS.nil ?_
  repeat refine LS.seq ?_
  refine LS.region rfl ?_
  refine OS.pure rfl (fun _ => rfl) rfl ?_
  refine OS.pure rfl (e_byte (s := pop8) rfl (by kernel_rfl) rfl rfl (pop8_at c)) rfl ?_
  rw [h8]
  refine OS.pure rfl (e_conv rfl rfl rfl rfl (in_i64 (by omega) (by have := pc_le c; omega))) rfl ?_
  refine OS.pure rfl (fun _ => rfl) rfl ?_
  refine OS.nil ?_
  refine LS.ret ⟨_, fun _ _ => rfl, ?_⟩
  exact ⟨rfl, rfl⟩
theorem Zeros_ct {L : RL} (c : UInt8) : CS Try.prog 87 [.int .u8 ((255 ^^^ c.toNat : Nat) : Int)] L fun v L' => v = .int .i64 (fz c : Nat) ∧ L' = L := by
  have h8 : (UInt8.ofNat (fz c)).toNat = fz c := toNat_of (by have := fz_le c; omega)
  refine CS.mk (fn := Try.f87) rfl rfl rfl rfl ?_
  repeat refine LS.seq ?_
  refine LS.region rfl ?_
  refine OS.pure rfl (fun _ => rfl) rfl ?_
  refine OS.nil ?_
  repeat refine LS.seq ?_
  refine LS.region rfl ?_
  refine OS.pure rfl (fun _ => rfl) rfl ?_
  refine OS.pure rfl (e_byte (s := tz8) rfl (by kernel_rfl) rfl rfl (tz8_at c)) rfl ?_
  rw [h8]
  refine OS.pure rfl (e_conv rfl rfl rfl rfl (in_i64 (by omega) (by have := fz_le c; omega))) rfl ?_
  refine OS.pure rfl (fun _ => rfl) rfl ?_
  refine OS.nil ?_
  refine LS.ret ⟨_, fun _ _ => rfl, ?_⟩
  exact ⟨rfl, rfl⟩

/-! ### The least free block -/
theorem fz_ahead {c : UInt8} {k : Nat} (h : k < fz c) : tb c k = true := by
  have hk : k < 8 := Nat.lt_of_lt_of_le h (fz_le c)
  have := List.not_of_lt_findIdx (p := fun k => !tb c k) (xs := List.range 8) h
  simpa using this
theorem fz_here {c : UInt8} (h : c ≠ 255) : fz c < 8 ∧ tb c (fz c) = false := by
  have hlt : fz c < 8 := by
    rcases Nat.lt_or_ge (fz c) 8 with h1 | h1
    · exact h1
    · refine absurd (byte_ext fun k hk => ?_) h
      rw [fz_ahead (by omega)]
      revert k
      decide
  refine ⟨hlt, ?_⟩
  have := List.findIdx_getElem (p := fun k => !tb c k) (xs := List.range 8) (w := by rw [List.length_range]; exact hlt)
  have this : tb c ((List.range 8)[fz c]'(by rw [List.length_range]; exact hlt)) = false := by simpa [fz] using this
  simpa using this
theorem full_bit {k : Nat} (hk : k < 8) : tb 255 k = true := by revert k; decide
theorem leastFree_ct {F : RL} {rm rb : Nat} {T : List Bool} (hT : T.length ≤ 32768) : CS Try.prog 81 [ptr rm] (fm rm rb T F) fun v L' => v = .int .i64 (ff T : Nat) ∧ L' = fm rm rb T F := by
  have hl := pk_len T
  refine CS.mk (fn := Try.f81) rfl rfl rfl rfl ?_
  repeat refine LS.seq ?_
  refine LS.region rfl ?_
  refine OS.pure rfl (fun _ => rfl) rfl ?_
  refine OS.nil ?_
  repeat refine LS.seq ?_
  refine LS.region rfl ?_
  refine OS.pure rfl (fun _ => rfl) rfl ?_
  refine OS.pure rfl (fun _ => rfl) rfl ?_
  refine OS.pure rfl (fun _ => rfl) rfl ?_
  refine OS.read rfl (e_load 0 rfl rfl rfl rfl rfl) rfl ?_
  refine OS.pure rfl (fun _ => rfl) rfl ?_
  refine OS.pure rfl (fun _ => rfl) rfl ?_
  refine OS.nil ?_
  repeat refine LS.seq ?_
  refine LS.block ?_
  refine LS.loopJ [0, 8, 9, 10] (fun q a L' => ∃ j, q = (pk T).length - j ∧ j ≤ (pk T).length ∧ (∀ i, i < 8 * j → tkn T i = true) ∧ L' = fm rm rb T F ∧
    a = [ptr rm, .chan none, .chan none, .chan none, .chan none, .chan none, .chan none, .chan none, .slice (some ⟨rb, 0, none⟩) (pk T).length (pk T).length, .int .i64 ((pk T).length : Nat), .int .i64 (j : Nat), .chan none, .chan none, .chan none, .chan none, .chan none, .chan none, .chan none, .chan none, .chan none, .chan none, .chan none, .chan none, .chan none, .chan none, .chan none, .chan none, .chan none]) (n := (pk T).length) rfl ⟨0, rfl, by omega, fun i hi => by omega, rfl, rfl⟩ ?_
  rintro q a L' ⟨j, rfl, hj, hall, rfl, rfl⟩
  repeat refine LS.seq ?_
  refine LS.region rfl ?_
  refine OS.pure rfl (fun _ => rfl) rfl ?_
  refine OS.nil ?_
  repeat refine LS.seq ?_
  refine LS.cond rfl (fun hc => ?_) (fun hc => ?_)
  · have hc := lt_of hc
    have hjl : j < (pk T).length := by omega
    have hbit : ∀ k, k < 8 → tb (pk T)[j] k = tkn T (8 * j + k) := fun k hk => by
      rw [← pk_bit, bit_at _ _ _ hk, List.getElem?_eq_getElem hjl]; rfl
    refine LS.skip ?_
    repeat refine LS.seq ?_
    refine LS.block ?_
    repeat refine LS.seq ?_
    refine LS.region rfl ?_
    refine OS.pure rfl (fun _ => rfl) rfl ?_
    refine OS.pure rfl (e_index (j := j) (sz := 1) rfl rfl rfl rfl rfl hjl) rfl ?_
    refine OS.read rfl (e_load 1 rfl rfl rfl rfl (part_one rfl (cell_at hjl))) rfl ?_
    refine OS.pure rfl (fun _ => rfl) rfl ?_
    refine OS.pure rfl (fun _ => rfl) rfl ?_
    refine OS.nil ?_
    by_cases h255 : (pk T)[j] = 255
    · have hb : (!ieqB ((pk T)[j].toNat : Int) 255) = false := by rw [h255]; rfl
      repeat refine LS.seq ?_
      refine LS.region rfl ?_
      refine OS.pure rfl (fun _ => rfl) rfl ?_
      refine OS.pure rfl (e_is (fun _ => rfl) (congrArg Value.bool hb)) rfl ?_
      refine OS.nil ?_
      refine LS.cond rfl (fun hc => by cases hc) (fun hc => ?_)
      refine LS.skip ?_
      repeat refine LS.seq ?_
      refine LS.region rfl ?_
      refine OS.pure rfl (e_add rfl rfl rfl (in_i64 (by omega) (by omega))) rfl ?_
      refine OS.pure rfl (fun _ => rfl) rfl ?_
      refine OS.nil ?_
      refine ⟨(pk T).length - (j + 1), by omega, j + 1, rfl, by omega, fun i hi => ?_, rfl, rfl⟩
      by_cases h8 : i < 8 * j
      · exact hall i h8
      · have := hbit (i - 8 * j) (by omega)
        rw [show 8 * j + (i - 8 * j) = i by omega, h255, full_bit (by omega)] at this
        exact this.symm
    · have hb : (!ieqB ((pk T)[j].toNat : Int) 255) = true := by
        rw [ieqB_eq]
        have : (pk T)[j].toNat ≠ 255 := fun e => h255 (UInt8.toNat_inj.1 (by rw [e]; rfl))
        simp; omega
      obtain ⟨hf1, hf2⟩ := fz_here h255
      have hff : ff T = 8 * j + fz (pk T)[j] := by
        refine ff_is (fun i hi => ?_) ?_
        · by_cases h8 : i < 8 * j
          · exact hall i h8
          · have := hbit (i - 8 * j) (by omega)
            rw [show 8 * j + (i - 8 * j) = i by omega, fz_ahead (by omega)] at this
            exact this.symm
        · rw [← hbit _ hf1]; exact hf2
      repeat refine LS.seq ?_
      refine LS.region rfl ?_
      refine OS.pure rfl (fun _ => rfl) rfl ?_
      refine OS.pure rfl (e_is (fun _ => rfl) (congrArg Value.bool hb)) rfl ?_
      refine OS.nil ?_
      refine LS.cond rfl (fun hc => ?_) (fun hc => by cases hc)
      repeat refine LS.seq ?_
      refine LS.region rfl ?_
      refine OS.pure rfl (fun _ => rfl) rfl ?_
      refine OS.pure rfl (e_mul (m := 8) rfl rfl rfl (in_i64 (by omega) (by omega))) rfl ?_
      refine OS.pure rfl (fun _ => rfl) rfl ?_
      refine OS.pure rfl (e_not8 rfl rfl (UInt8.toNat_lt _)) rfl ?_
      refine OS.call noGo rfl (fun _ => rfl) ((Zeros_ct _).mono ?_)
      rintro v L' ⟨rfl, rfl⟩
      refine ⟨_, rfl, ?_⟩
      refine OS.pure rfl (e_add rfl rfl rfl (in_i64 (by omega) (by omega))) rfl ?_
      refine OS.pure rfl (fun _ => rfl) rfl ?_
      refine OS.nil ?_
      refine LS.ret ⟨_, fun _ _ => rfl, ?_⟩
      rw [hff]
      exact ⟨by simp [tupleB], rfl⟩
  · have hc := nlt_of hc
    have hjl : j = (pk T).length := by omega
    subst hjl
    have hmany : T.length = 8 * (pk T).length := by
      rcases Nat.lt_or_ge T.length (8 * (pk T).length) with h | h
      · have := hall T.length h
        rw [tkn_out (Nat.le_refl _)] at this; cases this
      · omega
    have hff : ff T = T.length := ff_is (fun i hi => hall i (by omega)) (tkn_out (Nat.le_refl _))
    refine LS.exit ?_
    repeat refine LS.seq ?_
    refine LS.region rfl ?_
    refine OS.pure rfl (fun _ => rfl) rfl ?_
    refine OS.pure rfl (fun _ => rfl) rfl ?_
    refine OS.pure rfl (fun _ => rfl) rfl ?_
    refine OS.read rfl (e_load 0 rfl rfl rfl rfl rfl) rfl ?_
    refine OS.pure rfl (fun _ => rfl) rfl ?_
    refine OS.nil ?_
    refine LS.ret ⟨_, fun _ _ => rfl, ?_⟩
    rw [hff]
    exact ⟨rfl, rfl⟩

theorem Take_ct {F : RL} {rm rb : Nat} {T : List Bool} (hT : T.length ≤ 32768) : CS Try.prog 62 [ptr rm] (fm rm rb T F) fun v L' => v = .tuple #[.int .i64 (takeI T : Nat), .int .i64 (takeE T)] ∧ L' = fm rm rb (takeS T) F := by
  refine CS.mk (fn := Try.f62) rfl rfl rfl rfl ?_
  repeat refine LS.seq ?_
  refine LS.region rfl ?_
  refine OS.pure rfl (fun _ => rfl) rfl ?_
  refine OS.pure rfl (fun _ => rfl) rfl ?_
  refine OS.nil ?_
  repeat refine LS.seq ?_
  refine LS.region rfl ?_
  refine OS.pure rfl (fun _ => rfl) rfl ?_
  refine OS.pure rfl (fun _ => rfl) rfl ?_
  refine OS.nil ?_
  refine LS.cond rfl (fun hc => by cases hc) (fun hc => ?_)
  refine LS.skip ?_
  repeat refine LS.seq ?_
  refine LS.region rfl ?_
  refine OS.pure rfl (fun _ => rfl) rfl ?_
  refine OS.call noGo rfl (fun _ => rfl) ((leastFree_ct hT).mono ?_)
  rintro v L' ⟨rfl, rfl⟩
  refine ⟨_, rfl, ?_⟩
  refine OS.pure rfl (fun _ => rfl) rfl ?_
  refine OS.nil ?_
  repeat refine LS.seq ?_
  refine LS.region rfl ?_
  refine OS.pure rfl (fun _ => rfl) rfl ?_
  refine OS.pure rfl (fun _ => rfl) rfl ?_
  refine OS.call noGo rfl (fun _ => rfl) ((has_ct (ff T : Nat)).mono ?_)
  rintro v L' ⟨rfl, rfl⟩
  by_cases h : ff T < T.length
  · rw [decide_eq_true (show 0 ≤ ((ff T : Nat) : Int) ∧ ((ff T : Nat) : Int) < T.length by omega)]
    refine ⟨_, rfl, ?_⟩
    refine OS.pure rfl (fun _ => rfl) rfl ?_
    refine OS.nil ?_
    refine LS.cond rfl (fun hc => by cases hc) (fun hc => ?_)
    refine LS.skip ?_
    repeat refine LS.seq ?_
    refine LS.region rfl ?_
    refine OS.pure rfl (fun _ => rfl) rfl ?_
    refine OS.pure rfl (fun _ => rfl) rfl ?_
    refine OS.call noGo rfl (fun _ => rfl) ((flip_ct hT h).mono ?_)
    rintro v L' rfl
    refine ⟨_, rfl, ?_⟩
    refine OS.nil ?_
    repeat refine LS.seq ?_
    refine LS.region rfl ?_
    refine OS.pure rfl (fun _ => rfl) rfl ?_
    refine OS.pure rfl (fun _ => rfl) rfl ?_
    refine OS.pure rfl (fun _ => rfl) rfl ?_
    refine OS.nil ?_
    refine LS.ret ⟨_, fun _ _ => rfl, ?_⟩
    unfold takeI takeE takeS
    rw [if_pos h, if_pos h, if_pos h, ff_here h]
    exact ⟨rfl, rfl⟩
  · rw [decide_eq_false (show ¬ (0 ≤ ((ff T : Nat) : Int) ∧ ((ff T : Nat) : Int) < T.length) by omega)]
    refine ⟨_, rfl, ?_⟩
    refine OS.pure rfl (fun _ => rfl) rfl ?_
    refine OS.nil ?_
    refine LS.cond rfl (fun hc => ?_) (fun hc => by cases hc)
    repeat refine LS.seq ?_
    refine LS.region rfl ?_
    refine OS.pure rfl (fun _ => rfl) rfl ?_
    refine OS.pure rfl (fun _ => rfl) rfl ?_
    refine OS.nil ?_
    refine LS.ret ⟨_, fun _ _ => rfl, ?_⟩
    unfold takeI takeE takeS
    rw [if_neg h, if_neg h, if_neg h]
    exact ⟨rfl, rfl⟩
theorem refusal_ct {F : RL} {rm rb : Nat} {T : List Bool} (i : Int) : CS Try.prog 77 [ptr rm, .int .i64 i] (fm rm rb T F) fun v L' => v = .int .i64 (if 0 ≤ i ∧ i < T.length then 0 else 1) ∧ L' = fm rm rb T F := by
  refine CS.mk (fn := Try.f77) rfl rfl rfl rfl ?_
  repeat refine LS.seq ?_
  refine LS.region rfl ?_
  refine OS.pure rfl (fun _ => rfl) rfl ?_
  refine OS.nil ?_
  repeat refine LS.seq ?_
  refine LS.region rfl ?_
  refine OS.pure rfl (fun _ => rfl) rfl ?_
  refine OS.pure rfl (fun _ => rfl) rfl ?_
  refine OS.nil ?_
  refine LS.cond rfl (fun hc => by cases hc) (fun hc => ?_)
  refine LS.skip ?_
  repeat refine LS.seq ?_
  refine LS.region rfl ?_
  refine OS.pure rfl (fun _ => rfl) rfl ?_
  refine OS.pure rfl (fun _ => rfl) rfl ?_
  refine OS.call noGo rfl (fun _ => rfl) ((has_ct i).mono ?_)
  rintro v L' ⟨rfl, rfl⟩
  by_cases h : 0 ≤ i ∧ i < T.length
  · rw [decide_eq_true h]
    refine ⟨_, rfl, ?_⟩
    refine OS.pure rfl (fun _ => rfl) rfl ?_
    refine OS.nil ?_
    refine LS.cond rfl (fun hc => by cases hc) (fun hc => ?_)
    refine LS.skip ?_
    repeat refine LS.seq ?_
    refine LS.region rfl ?_
    refine OS.pure rfl (fun _ => rfl) rfl ?_
    refine OS.nil ?_
    refine LS.ret ⟨_, fun _ _ => rfl, ?_⟩
    rw [if_pos h]
    exact ⟨rfl, rfl⟩
  · rw [decide_eq_false h]
    refine ⟨_, rfl, ?_⟩
    refine OS.pure rfl (fun _ => rfl) rfl ?_
    refine OS.nil ?_
    refine LS.cond rfl (fun hc => ?_) (fun hc => by cases hc)
    repeat refine LS.seq ?_
    refine LS.region rfl ?_
    refine OS.pure rfl (fun _ => rfl) rfl ?_
    refine OS.nil ?_
    refine LS.ret ⟨_, fun _ _ => rfl, ?_⟩
    rw [if_neg h]
    exact ⟨rfl, rfl⟩
theorem Claim_ct {F : RL} {rm rb : Nat} {T : List Bool} (hT : T.length ≤ 32768) (i : Int) : CS Try.prog 50 [ptr rm, .int .i64 i] (fm rm rb T F) fun v L' => v = .int .i64 (claimE T i) ∧ L' = fm rm rb (claimS T i) F := by
  refine CS.mk (fn := Try.f50) rfl rfl rfl rfl ?_
  repeat refine LS.seq ?_
  refine LS.region rfl ?_
  refine OS.pure rfl (fun _ => rfl) rfl ?_
  refine OS.nil ?_
  repeat refine LS.seq ?_
  refine LS.region rfl ?_
  refine OS.pure rfl (fun _ => rfl) rfl ?_
  refine OS.pure rfl (fun _ => rfl) rfl ?_
  refine OS.call noGo rfl (fun _ => rfl) ((refusal_ct i).mono ?_)
  rintro v L' ⟨rfl, rfl⟩
  refine ⟨_, rfl, ?_⟩
  refine OS.pure rfl (fun _ => rfl) rfl ?_
  refine OS.nil ?_
  by_cases h : 0 ≤ i ∧ i < T.length
  · rw [if_pos h]
    repeat refine LS.seq ?_
    refine LS.region rfl ?_
    refine OS.pure rfl (fun _ => rfl) rfl ?_
    refine OS.pure rfl (fun _ => rfl) rfl ?_
    refine OS.nil ?_
    refine LS.cond rfl (fun hc => by cases hc) (fun hc => ?_)
    refine LS.skip ?_
    repeat refine LS.seq ?_
    refine LS.region rfl ?_
    refine OS.pure rfl (fun _ => rfl) rfl ?_
    refine OS.pure rfl (fun _ => rfl) rfl ?_
    refine OS.call noGo rfl (fun _ => rfl) ((Taken_ct hT i).mono ?_)
    rintro v L' ⟨rfl, rfl⟩
    rw [decide_eq_true h, Bool.true_and]
    refine ⟨_, rfl, ?_⟩
    refine OS.nil ?_
    have hE : claimE T i = if tkn T i.toNat then 6 else 0 := by unfold claimE; rw [if_pos h]
    unfold claimS
    rw [hE]
    obtain ⟨j, rfl⟩ := Int.eq_ofNat_of_zero_le h.1
    rw [Int.toNat_natCast]
    cases ht : tkn T j
    · refine LS.cond rfl (fun hc => by cases hc) (fun hc => ?_)
      refine LS.skip ?_
      repeat refine LS.seq ?_
      refine LS.region rfl ?_
      refine OS.pure rfl (fun _ => rfl) rfl ?_
      refine OS.pure rfl (fun _ => rfl) rfl ?_
      refine OS.call noGo rfl (fun _ => rfl) ((flip_ct (i := j) hT (by omega)).mono ?_)
      rintro v L' rfl
      refine ⟨_, rfl, ?_⟩
      refine OS.nil ?_
      repeat refine LS.seq ?_
      refine LS.region rfl ?_
      refine OS.pure rfl (fun _ => rfl) rfl ?_
      refine OS.nil ?_
      refine LS.ret ⟨_, fun _ _ => rfl, ?_⟩
      rw [ht]
      exact ⟨rfl, rfl⟩
    · refine LS.cond rfl (fun hc => ?_) (fun hc => by cases hc)
      repeat refine LS.seq ?_
      refine LS.region rfl ?_
      refine OS.pure rfl (fun _ => rfl) rfl ?_
      refine OS.nil ?_
      refine LS.ret ⟨_, fun _ _ => rfl, ?_⟩
      exact ⟨rfl, rfl⟩
  · rw [if_neg h]
    repeat refine LS.seq ?_
    refine LS.region rfl ?_
    refine OS.pure rfl (fun _ => rfl) rfl ?_
    refine OS.pure rfl (fun _ => rfl) rfl ?_
    refine OS.nil ?_
    refine LS.cond rfl (fun hc => ?_) (fun hc => by cases hc)
    repeat refine LS.seq ?_
    refine LS.region rfl ?_
    refine OS.pure rfl (fun _ => rfl) rfl ?_
    refine OS.pure rfl (fun _ => rfl) rfl ?_
    refine OS.nil ?_
    refine LS.ret ⟨_, fun _ _ => rfl, ?_⟩
    have hE : claimE T i = 1 := by unfold claimE; rw [if_neg h]
    unfold claimS
    rw [hE]
    exact ⟨rfl, rfl⟩
theorem Drop_ct {F : RL} {rm rb : Nat} {T : List Bool} (hT : T.length ≤ 32768) (i : Int) : CS Try.prog 69 [ptr rm, .int .i64 i] (fm rm rb T F) fun v L' => v = .int .i64 (dropE T i) ∧ L' = fm rm rb (dropS T i) F := by
  refine CS.mk (fn := Try.f69) rfl rfl rfl rfl ?_
  repeat refine LS.seq ?_
  refine LS.region rfl ?_
  refine OS.pure rfl (fun _ => rfl) rfl ?_
  refine OS.nil ?_
  repeat refine LS.seq ?_
  refine LS.region rfl ?_
  refine OS.pure rfl (fun _ => rfl) rfl ?_
  refine OS.pure rfl (fun _ => rfl) rfl ?_
  refine OS.call noGo rfl (fun _ => rfl) ((refusal_ct i).mono ?_)
  rintro v L' ⟨rfl, rfl⟩
  refine ⟨_, rfl, ?_⟩
  refine OS.pure rfl (fun _ => rfl) rfl ?_
  refine OS.nil ?_
  by_cases h : 0 ≤ i ∧ i < T.length
  · rw [if_pos h]
    repeat refine LS.seq ?_
    refine LS.region rfl ?_
    refine OS.pure rfl (fun _ => rfl) rfl ?_
    refine OS.pure rfl (fun _ => rfl) rfl ?_
    refine OS.nil ?_
    refine LS.cond rfl (fun hc => by cases hc) (fun hc => ?_)
    refine LS.skip ?_
    repeat refine LS.seq ?_
    refine LS.region rfl ?_
    refine OS.pure rfl (fun _ => rfl) rfl ?_
    refine OS.pure rfl (fun _ => rfl) rfl ?_
    refine OS.call noGo rfl (fun _ => rfl) ((Taken_ct hT i).mono ?_)
    rintro v L' ⟨rfl, rfl⟩
    rw [decide_eq_true h, Bool.true_and]
    refine ⟨_, rfl, ?_⟩
    refine OS.pure rfl (fun _ => rfl) rfl ?_
    refine OS.nil ?_
    have hE : dropE T i = if tkn T i.toNat then 0 else 5 := by unfold dropE; rw [if_pos h]
    unfold dropS
    rw [hE]
    obtain ⟨j, rfl⟩ := Int.eq_ofNat_of_zero_le h.1
    rw [Int.toNat_natCast]
    cases ht : tkn T j
    · refine LS.cond rfl (fun hc => ?_) (fun hc => by cases hc)
      repeat refine LS.seq ?_
      refine LS.region rfl ?_
      refine OS.pure rfl (fun _ => rfl) rfl ?_
      refine OS.nil ?_
      refine LS.ret ⟨_, fun _ _ => rfl, ?_⟩
      exact ⟨rfl, rfl⟩
    · refine LS.cond rfl (fun hc => by cases hc) (fun hc => ?_)
      refine LS.skip ?_
      repeat refine LS.seq ?_
      refine LS.region rfl ?_
      refine OS.pure rfl (fun _ => rfl) rfl ?_
      refine OS.pure rfl (fun _ => rfl) rfl ?_
      refine OS.call noGo rfl (fun _ => rfl) ((flip_ct (i := j) hT (by omega)).mono ?_)
      rintro v L' rfl
      refine ⟨_, rfl, ?_⟩
      refine OS.nil ?_
      repeat refine LS.seq ?_
      refine LS.region rfl ?_
      refine OS.pure rfl (fun _ => rfl) rfl ?_
      refine OS.nil ?_
      refine LS.ret ⟨_, fun _ _ => rfl, ?_⟩
      rw [ht]
      exact ⟨rfl, rfl⟩
  · rw [if_neg h]
    repeat refine LS.seq ?_
    refine LS.region rfl ?_
    refine OS.pure rfl (fun _ => rfl) rfl ?_
    refine OS.pure rfl (fun _ => rfl) rfl ?_
    refine OS.nil ?_
    refine LS.cond rfl (fun hc => ?_) (fun hc => by cases hc)
    repeat refine LS.seq ?_
    refine LS.region rfl ?_
    refine OS.pure rfl (fun _ => rfl) rfl ?_
    refine OS.pure rfl (fun _ => rfl) rfl ?_
    refine OS.nil ?_
    refine LS.ret ⟨_, fun _ _ => rfl, ?_⟩
    have hE : dropE T i = 1 := by unfold dropE; rw [if_neg h]
    unfold dropS
    rw [hE]
    exact ⟨rfl, rfl⟩
theorem Free_ct {F : RL} {rm rb : Nat} {T : List Bool} (hT : T.length ≤ 32768) : CS Try.prog 31 [ptr rm] (fm rm rb T F) fun v L' => v = .int .i64 (frees T : Nat) ∧ L' = fm rm rb T F := by
  have hl := pk_len T
  refine CS.mk (fn := Try.f31) rfl rfl rfl rfl ?_
  repeat refine LS.seq ?_
  refine LS.region rfl ?_
  refine OS.pure rfl (fun _ => rfl) rfl ?_
  refine OS.nil ?_
  repeat refine LS.seq ?_
  refine LS.region rfl ?_
  refine OS.pure rfl (fun _ => rfl) rfl ?_
  refine OS.pure rfl (fun _ => rfl) rfl ?_
  refine OS.nil ?_
  refine LS.cond rfl (fun hc => by cases hc) (fun hc => ?_)
  refine LS.skip ?_
  repeat refine LS.seq ?_
  refine LS.region rfl ?_
  refine OS.pure rfl (fun _ => rfl) rfl ?_
  refine OS.pure rfl (fun _ => rfl) rfl ?_
  refine OS.pure rfl (fun _ => rfl) rfl ?_
  refine OS.read rfl (e_load 0 rfl rfl rfl rfl rfl) rfl ?_
  refine OS.pure rfl (fun _ => rfl) rfl ?_
  refine OS.nil ?_
  repeat refine LS.seq ?_
  refine LS.region rfl ?_
  refine OS.pure rfl (fun _ => rfl) rfl ?_
  refine OS.pure rfl (fun _ => rfl) rfl ?_
  refine OS.pure rfl (fun _ => rfl) rfl ?_
  refine OS.read rfl (e_load 0 rfl rfl rfl rfl rfl) rfl ?_
  refine OS.pure rfl (fun _ => rfl) rfl ?_
  refine OS.pure rfl (fun _ => rfl) rfl ?_
  refine OS.nil ?_
  repeat refine LS.seq ?_
  refine LS.block ?_
  refine LS.loopJ [3, 15, 16, 17] (fun q a L' => ∃ j, q = (pk T).length - j ∧ j ≤ (pk T).length ∧ L' = fm rm rb T F ∧
    a = [.chan none, .chan none, .chan none, .int .i64 ((T.length : Int) - (onesTo (pk T) j : Nat)), .chan none, .chan none, .chan none, .chan none, .chan none, .chan none, .chan none, .chan none, .chan none, .chan none, .chan none, .slice (some ⟨rb, 0, none⟩) (pk T).length (pk T).length, .int .i64 ((pk T).length : Nat), .int .i64 (j : Nat), .chan none, .chan none, .chan none, .chan none, .chan none, .chan none, .chan none, .chan none, .chan none]) (n := (pk T).length) rfl ⟨0, rfl, by omega, rfl, by simp [onesTo]; rfl⟩ ?_
  rintro q a L' ⟨j, rfl, hj, rfl, rfl⟩
  repeat refine LS.seq ?_
  refine LS.region rfl ?_
  refine OS.pure rfl (fun _ => rfl) rfl ?_
  refine OS.nil ?_
  repeat refine LS.seq ?_
  refine LS.cond rfl (fun hc => ?_) (fun hc => ?_)
  · have hc := lt_of hc
    have hjl : j < (pk T).length := by omega
    have h1 := onesTo_le (pk T) j
    have h2 := pc_le (pk T)[j]
    refine LS.skip ?_
    repeat refine LS.seq ?_
    refine LS.block ?_
    repeat refine LS.seq ?_
    refine LS.region rfl ?_
    refine OS.pure rfl (e_index (j := j) (sz := 1) rfl rfl rfl rfl rfl hjl) rfl ?_
    refine OS.read rfl (e_load 1 rfl rfl rfl rfl (part_one rfl (cell_at hjl))) rfl ?_
    refine OS.pure rfl (fun _ => rfl) rfl ?_
    refine OS.nil ?_
    repeat refine LS.seq ?_
    refine LS.region rfl ?_
    refine OS.pure rfl (fun _ => rfl) rfl ?_
    refine OS.pure rfl (fun _ => rfl) rfl ?_
    refine OS.call noGo rfl (fun _ => rfl) ((Ones_ct _).mono ?_)
    rintro v L' ⟨rfl, rfl⟩
    refine ⟨_, rfl, ?_⟩
    refine OS.pure rfl (e_sub rfl rfl rfl (in_i64 (by omega) (by omega))) rfl ?_
    refine OS.pure rfl (fun _ => rfl) rfl ?_
    refine OS.nil ?_
    repeat refine LS.seq ?_
    refine LS.region rfl ?_
    refine OS.pure rfl (e_add rfl rfl rfl (in_i64 (by omega) (by omega))) rfl ?_
    refine OS.pure rfl (fun _ => rfl) rfl ?_
    refine OS.nil ?_
    refine ⟨(pk T).length - (j + 1), by omega, j + 1, rfl, by omega, rfl, ?_⟩
    rw [onesTo_succ (List.getElem?_eq_getElem hjl), show (T.length : Int) - ((onesTo (pk T) j + pc (pk T)[j] : Nat) : Int) = (T.length : Int) - (onesTo (pk T) j : Nat) - (pc (pk T)[j] : Nat) by omega]
    rfl
  · have hc := nlt_of hc
    have hjl : j = (pk T).length := by omega
    subst hjl
    have := onesTo_all (pk_rep hT)
    refine LS.exit ?_
    repeat refine LS.seq ?_
    refine LS.region rfl ?_
    refine OS.pure rfl (fun _ => rfl) rfl ?_
    refine OS.pure rfl (fun _ => rfl) rfl ?_
    refine OS.nil ?_
    refine LS.ret ⟨_, fun _ _ => rfl, ?_⟩
    rw [show (frees T : Int) = (T.length : Int) - (onesTo (pk T) (pk T).length : Nat) by omega]
    exact ⟨rfl, rfl⟩
end Go.Proofs.Yteiiekfccecoiaa.Z
