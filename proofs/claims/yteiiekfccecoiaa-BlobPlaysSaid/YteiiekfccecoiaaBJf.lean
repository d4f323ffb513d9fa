/- Layer 4: the journal's calls. -/
import Derived.Test.YteiiekfccecoiaaBJe
namespace Go.Proofs.Yteiiekfccecoiaa
open Go.Am
set_option linter.unusedVariables false
set_option maxRecDepth 20000

/-- A journal's row, ahead of its disk's. -/
abbrev jn (rj rd rb : Nat) (s : Dk) (F : RL) : RL := (rj, .cells 72 [ptr rd]) :: dk rd rb s F

theorem jrefusal_ct {F : RL} {rj rd rb : Nat} {s : Dk} : CS Try.prog 67 [ptr rj] (jn rj rd rb s F) fun v L' => v = .int .i64 (if s.dead then 20 else 0) ∧ L' = jn rj rd rb s F := by
  refine CS.mk (fn := Try.f67) rfl rfl rfl rfl ?_
  repeat refine LS.seq ?_
  refine LS.region rfl ?_
  refine OS.pure rfl (fun _ => rfl) rfl ?_
  refine OS.nil ?_
  repeat refine LS.seq ?_
  refine LS.region rfl ?_
  refine OS.pure rfl (fun _ => rfl) rfl ?_
  refine OS.pure rfl (fun _ => rfl) rfl ?_
  refine OS.pure rfl (fun _ => rfl) rfl ?_
  refine OS.pure rfl (fun _ => rfl) rfl ?_
  refine OS.pure rfl (fun _ => rfl) rfl ?_
  refine OS.pure rfl (fun _ => rfl) rfl ?_
  refine OS.read rfl (e_load 0 rfl rfl rfl rfl rfl) rfl ?_
  refine OS.pure rfl (fun _ => rfl) rfl ?_
  refine OS.pure rfl (fun _ => rfl) rfl ?_
  refine OS.nil ?_
  refine LS.cond rfl (fun hc => by cases hc) (fun hc => ?_)
  refine LS.skip ?_
  repeat refine LS.seq ?_
  refine LS.region rfl ?_
  refine OS.pure rfl (fun _ => rfl) rfl ?_
  refine OS.pure rfl (fun _ => rfl) rfl ?_
  refine OS.pure rfl (fun _ => rfl) rfl ?_
  refine OS.read rfl (e_load 0 rfl rfl rfl rfl rfl) rfl ?_
  refine OS.sub (Sub.pulls [2, 2] rfl) ?_
  refine OS.call noGo rfl (fun _ => rfl) ((Dead_ct).mono ?_)
  rintro v L' ⟨rfl, rfl⟩
  refine ⟨_, rfl, ?_⟩
  refine OS.sub (Sub.pulls [2] rfl) ?_
  refine OS.nil ?_
  cases hd : s.dead with
  | true =>
    refine LS.cond rfl (fun hc => ?_) (fun hc => by cases hc)
    repeat refine LS.seq ?_
    refine LS.region rfl ?_
    refine OS.pure rfl (fun _ => rfl) rfl ?_
    refine OS.nil ?_
    refine LS.ret ⟨_, fun _ _ => rfl, ?_⟩
    exact ⟨rfl, rfl⟩
  | false =>
    refine LS.cond rfl (fun hc => by cases hc) (fun hc => ?_)
    refine LS.skip ?_
    repeat refine LS.seq ?_
    refine LS.region rfl ?_
    refine OS.pure rfl (fun _ => rfl) rfl ?_
    refine OS.nil ?_
    refine LS.ret ⟨_, fun _ _ => rfl, ?_⟩
    exact ⟨rfl, rfl⟩
theorem jrefusal_nil {L : RL} : CS Try.prog 67 [.pointer none] L fun v L' => v = .int .i64 2 ∧ L' = L := by
  refine CS.mk (fn := Try.f67) rfl rfl rfl rfl ?_
  repeat refine LS.seq ?_
  refine LS.region rfl ?_
  refine OS.pure rfl (fun _ => rfl) rfl ?_
  refine OS.nil ?_
  repeat refine LS.seq ?_
  refine LS.region rfl ?_
  refine OS.pure rfl (fun _ => rfl) rfl ?_
  refine OS.pure rfl (fun _ => rfl) rfl ?_
  refine OS.pure rfl (fun _ => rfl) rfl ?_
  refine OS.skip rfl rfl ?_
  refine OS.skip rfl rfl ?_
  refine OS.skip rfl rfl ?_
  refine OS.skip rfl rfl ?_
  refine OS.skip rfl rfl ?_
  refine OS.pure rfl (fun _ => rfl) rfl ?_
  refine OS.nil ?_
  refine LS.cond rfl (fun hc => ?_) (fun hc => by cases hc)
  repeat refine LS.seq ?_
  refine LS.region rfl ?_
  refine OS.pure rfl (fun _ => rfl) rfl ?_
  refine OS.nil ?_
  refine LS.ret ⟨_, fun _ _ => rfl, ?_⟩
  exact ⟨rfl, rfl⟩

theorem jDisk_ct {L : RL} {rj rd : Nat} : CS Try.prog 37 [ptr rj] ((rj, .cells 72 [ptr rd]) :: L) fun v L' => v = ptr rd ∧ L' = (rj, .cells 72 [ptr rd]) :: L := by
  refine CS.mk (fn := Try.f37) rfl rfl rfl rfl ?_
  repeat refine LS.seq ?_
  refine LS.region rfl ?_
  refine OS.pure rfl (fun _ => rfl) rfl ?_
  refine OS.nil ?_
  repeat refine LS.seq ?_
  refine LS.region rfl ?_
  refine OS.pure rfl (fun _ => rfl) rfl ?_
  refine OS.pure rfl (fun _ => rfl) rfl ?_
  refine OS.nil ?_
  refine LS.cond rfl (fun hc => by cases hc) (fun hc => ?_)
  refine LS.skip ?_
  repeat refine LS.seq ?_
  refine LS.region rfl ?_
  refine OS.pure rfl (fun _ => rfl) rfl ?_
  refine OS.pure rfl (fun _ => rfl) rfl ?_
  refine OS.pure rfl (fun _ => rfl) rfl ?_
  refine OS.read rfl (e_load 0 rfl rfl rfl rfl rfl) rfl ?_
  refine OS.pure rfl (fun _ => rfl) rfl ?_
  refine OS.nil ?_
  refine LS.ret ⟨_, fun _ _ => rfl, ?_⟩
  exact ⟨rfl, rfl⟩
theorem jDisk_nil {L : RL} : CS Try.prog 37 [.pointer none] L fun v L' => v = .pointer none ∧ L' = L := by
  refine CS.mk (fn := Try.f37) rfl rfl rfl rfl ?_
  repeat refine LS.seq ?_
  refine LS.region rfl ?_
  refine OS.pure rfl (fun _ => rfl) rfl ?_
  refine OS.nil ?_
  repeat refine LS.seq ?_
  refine LS.region rfl ?_
  refine OS.pure rfl (fun _ => rfl) rfl ?_
  refine OS.pure rfl (fun _ => rfl) rfl ?_
  refine OS.nil ?_
  refine LS.cond rfl (fun hc => ?_) (fun hc => by cases hc)
  repeat refine LS.seq ?_
  refine LS.region rfl ?_
  refine OS.pure rfl (fun _ => rfl) rfl ?_
  refine OS.nil ?_
  refine LS.ret ⟨_, fun _ _ => rfl, ?_⟩
  exact ⟨rfl, rfl⟩

theorem jRead_ct {F : RL} {rj rd rb : Nat} {s : Dk} (hs : s.ok) (hd : s.dead = false) (i : Nat) (hi : plainP s.n i) : CS Try.prog 88 [ptr rj, .int .i64 (i : Nat)] (jn rj rd rb s F) fun v L' => ∃ r, v = .tuple #[.slice (some ⟨r, 0, none⟩) 256 256, .int .i64 0] ∧ L' = (r, .cells 124 (byteCells (blk s.D i))) :: jn rj rd rb s F := by
  have hin : i < s.n := by have := hs.2.1; unfold plainP at hi; omega
  refine CS.mk (fn := Try.f88) rfl rfl rfl rfl ?_
  repeat refine LS.seq ?_
  refine LS.region rfl ?_
  refine OS.pure rfl (fun _ => rfl) rfl ?_
  refine OS.pure rfl (fun _ => rfl) rfl ?_
  refine OS.nil ?_
  repeat refine LS.seq ?_
  refine LS.region rfl ?_
  refine OS.pure rfl (fun _ => rfl) rfl ?_
  refine OS.call noGo rfl (fun _ => rfl) ((jrefusal_ct).mono ?_)
  rintro v L' ⟨rfl, rfl⟩
  rw [hd]
  refine ⟨_, rfl, ?_⟩
  refine OS.pure rfl (fun _ => rfl) rfl ?_
  refine OS.nil ?_
  repeat refine LS.seq ?_
  refine LS.region rfl ?_
  refine OS.pure rfl (fun _ => rfl) rfl ?_
  refine OS.pure rfl (fun _ => rfl) rfl ?_
  refine OS.nil ?_
  refine LS.cond rfl (fun hc => by cases hc) (fun hc => ?_)
  refine LS.skip ?_
  repeat refine LS.seq ?_
  refine LS.region rfl ?_
  refine OS.pure rfl (fun _ => rfl) rfl ?_
  refine OS.pure rfl (fun _ => rfl) rfl ?_
  refine OS.pure rfl (fun _ => rfl) rfl ?_
  refine OS.read rfl (e_load 0 rfl rfl rfl rfl rfl) rfl ?_
  refine OS.pure rfl (fun _ => rfl) rfl ?_
  refine OS.sub (Sub.pulls [2, 2] rfl) ?_
  refine OS.call noGo rfl (fun _ => rfl) ((isPlain_ct (i : Nat)).mono ?_)
  rintro v L' ⟨rfl, rfl⟩
  rw [decide_eq_true hi]
  refine ⟨_, rfl, ?_⟩
  refine OS.pure rfl (fun _ => rfl) rfl ?_
  refine OS.nil ?_
  refine LS.cond rfl (fun hc => by cases hc) (fun hc => ?_)
  refine LS.skip ?_
  repeat refine LS.seq ?_
  refine LS.region rfl ?_
  refine OS.pure rfl (fun _ => rfl) rfl ?_
  refine OS.pure rfl (fun _ => rfl) rfl ?_
  refine OS.pure rfl (fun _ => rfl) rfl ?_
  refine OS.read rfl (e_load 2 rfl rfl rfl rfl rfl) rfl ?_
  refine OS.pure rfl (fun _ => rfl) rfl ?_
  refine OS.call noGo rfl (fun _ => rfl) ((Read_ct hs hd i hin).mono ?_)
  rintro v L' ⟨r, rfl, rfl⟩
  refine ⟨_, rfl, ?_⟩
  refine OS.sub (Sub.pulls [3, 1] rfl) ?_
  refine OS.pure rfl (fun _ => rfl) rfl ?_
  refine OS.pure rfl (fun _ => rfl) rfl ?_
  refine OS.pure rfl (fun _ => rfl) rfl ?_
  refine OS.pure rfl (fun _ => rfl) rfl ?_
  refine OS.nil ?_
  refine LS.ret ⟨_, fun _ _ => rfl, ?_⟩
  exact ⟨r, rfl, rfl⟩
theorem jRead_out {F : RL} {rj rd rb : Nat} {s : Dk} (hd : s.dead = false) (i : Int) (hi : ¬ plainP s.n i) : CS Try.prog 88 [ptr rj, .int .i64 i] (jn rj rd rb s F) fun v L' => v = .tuple #[.slice none 0 0, .int .i64 1] ∧ L' = jn rj rd rb s F := by
  refine CS.mk (fn := Try.f88) rfl rfl rfl rfl ?_
  repeat refine LS.seq ?_
  refine LS.region rfl ?_
  refine OS.pure rfl (fun _ => rfl) rfl ?_
  refine OS.pure rfl (fun _ => rfl) rfl ?_
  refine OS.nil ?_
  repeat refine LS.seq ?_
  refine LS.region rfl ?_
  refine OS.pure rfl (fun _ => rfl) rfl ?_
  refine OS.call noGo rfl (fun _ => rfl) ((jrefusal_ct).mono ?_)
  rintro v L' ⟨rfl, rfl⟩
  rw [hd]
  refine ⟨_, rfl, ?_⟩
  refine OS.pure rfl (fun _ => rfl) rfl ?_
  refine OS.nil ?_
  repeat refine LS.seq ?_
  refine LS.region rfl ?_
  refine OS.pure rfl (fun _ => rfl) rfl ?_
  refine OS.pure rfl (fun _ => rfl) rfl ?_
  refine OS.nil ?_
  refine LS.cond rfl (fun hc => by cases hc) (fun hc => ?_)
  refine LS.skip ?_
  repeat refine LS.seq ?_
  refine LS.region rfl ?_
  refine OS.pure rfl (fun _ => rfl) rfl ?_
  refine OS.pure rfl (fun _ => rfl) rfl ?_
  refine OS.pure rfl (fun _ => rfl) rfl ?_
  refine OS.read rfl (e_load 0 rfl rfl rfl rfl rfl) rfl ?_
  refine OS.pure rfl (fun _ => rfl) rfl ?_
  refine OS.sub (Sub.pulls [2, 2] rfl) ?_
  refine OS.call noGo rfl (fun _ => rfl) ((isPlain_ct i).mono ?_)
  rintro v L' ⟨rfl, rfl⟩
  rw [decide_eq_false hi]
  refine ⟨_, rfl, ?_⟩
  refine OS.sub (Sub.pulls [2] rfl) ?_
  refine OS.pure rfl (fun _ => rfl) rfl ?_
  refine OS.nil ?_
  refine LS.cond rfl (fun hc => ?_) (fun hc => by cases hc)
  repeat refine LS.seq ?_
  refine LS.region rfl ?_
  refine OS.pure rfl (fun _ => rfl) rfl ?_
  refine OS.pure rfl (fun _ => rfl) rfl ?_
  refine OS.nil ?_
  refine LS.ret ⟨_, fun _ _ => rfl, ?_⟩
  exact ⟨rfl, rfl⟩
theorem jRead_dead {F : RL} {rj rd rb : Nat} {s : Dk} (hd : s.dead = true) (i : Value) : CS Try.prog 88 [ptr rj, i] (jn rj rd rb s F) fun v L' => v = .tuple #[.slice none 0 0, .int .i64 20] ∧ L' = jn rj rd rb s F := by
  refine CS.mk (fn := Try.f88) rfl rfl rfl rfl ?_
  repeat refine LS.seq ?_
  refine LS.region rfl ?_
  refine OS.pure rfl (fun _ => rfl) rfl ?_
  refine OS.pure rfl (fun _ => rfl) rfl ?_
  refine OS.nil ?_
  repeat refine LS.seq ?_
  refine LS.region rfl ?_
  refine OS.pure rfl (fun _ => rfl) rfl ?_
  refine OS.call noGo rfl (fun _ => rfl) ((jrefusal_ct).mono ?_)
  rintro v L' ⟨rfl, rfl⟩
  rw [hd]
  refine ⟨_, rfl, ?_⟩
  refine OS.pure rfl (fun _ => rfl) rfl ?_
  refine OS.nil ?_
  repeat refine LS.seq ?_
  refine LS.region rfl ?_
  refine OS.pure rfl (fun _ => rfl) rfl ?_
  refine OS.pure rfl (fun _ => rfl) rfl ?_
  refine OS.nil ?_
  refine LS.cond rfl (fun hc => ?_) (fun hc => by cases hc)
  repeat refine LS.seq ?_
  refine LS.region rfl ?_
  refine OS.pure rfl (fun _ => rfl) rfl ?_
  refine OS.pure rfl (fun _ => rfl) rfl ?_
  refine OS.pure rfl (fun _ => rfl) rfl ?_
  refine OS.nil ?_
  refine LS.ret ⟨_, fun _ _ => rfl, ?_⟩
  exact ⟨rfl, rfl⟩
theorem jRead_nil {L : RL} (i : Value) : CS Try.prog 88 [.pointer none, i] L fun v L' => v = .tuple #[.slice none 0 0, .int .i64 2] ∧ L' = L := by
  refine CS.mk (fn := Try.f88) rfl rfl rfl rfl ?_
  repeat refine LS.seq ?_
  refine LS.region rfl ?_
  refine OS.pure rfl (fun _ => rfl) rfl ?_
  refine OS.pure rfl (fun _ => rfl) rfl ?_
  refine OS.nil ?_
  repeat refine LS.seq ?_
  refine LS.region rfl ?_
  refine OS.pure rfl (fun _ => rfl) rfl ?_
  refine OS.call noGo rfl (fun _ => rfl) ((jrefusal_nil).mono ?_)
  rintro v L' ⟨rfl, rfl⟩
  refine ⟨_, rfl, ?_⟩
  refine OS.pure rfl (fun _ => rfl) rfl ?_
  refine OS.nil ?_
  repeat refine LS.seq ?_
  refine LS.region rfl ?_
  refine OS.pure rfl (fun _ => rfl) rfl ?_
  refine OS.pure rfl (fun _ => rfl) rfl ?_
  refine OS.nil ?_
  refine LS.cond rfl (fun hc => ?_) (fun hc => by cases hc)
  repeat refine LS.seq ?_
  refine LS.region rfl ?_
  refine OS.pure rfl (fun _ => rfl) rfl ?_
  refine OS.pure rfl (fun _ => rfl) rfl ?_
  refine OS.pure rfl (fun _ => rfl) rfl ?_
  refine OS.nil ?_
  refine LS.ret ⟨_, fun _ _ => rfl, ?_⟩
  exact ⟨rfl, rfl⟩

/-- Raw: its answer, and the disk behind it. -/
def rawD (s : Dk) (i : Int) (bs : List UInt8) : Int × Dk := if s.dead = true then (20, s) else if plainP s.n i then wrD s i bs else (1, s)
theorem jRaw_ct {F : RL} {rj rd rb : Nat} {s : Dk} (hs : s.ok) (i : Int) {b : Value} {m : Nat} {bs : List UInt8} (hb : SV 1 F b m (byteCells bs)) : CS Try.prog 43 [ptr rj, .int .i64 i, b] (jn rj rd rb s F) fun v L' => v = .int .i64 (rawD s i bs).1 ∧ L' = jn rj rd rb (rawD s i bs).2 F := by
  unfold rawD
  cases hd : s.dead with
  | true =>
    rw [if_pos rfl]
    refine CS.mk (fn := Try.f43) rfl rfl rfl rfl ?_
    repeat refine LS.seq ?_
    refine LS.region rfl ?_
    refine OS.pure rfl (fun _ => rfl) rfl ?_
    refine OS.nil ?_
    repeat refine LS.seq ?_
    refine LS.region rfl ?_
    refine OS.pure rfl (fun _ => rfl) rfl ?_
    refine OS.call noGo rfl (fun _ => rfl) ((jrefusal_ct).mono ?_)
    rintro v L' ⟨rfl, rfl⟩
    rw [hd]
    refine ⟨_, rfl, ?_⟩
    refine OS.pure rfl (fun _ => rfl) rfl ?_
    refine OS.nil ?_
    repeat refine LS.seq ?_
    refine LS.region rfl ?_
    refine OS.pure rfl (fun _ => rfl) rfl ?_
    refine OS.pure rfl (fun _ => rfl) rfl ?_
    refine OS.nil ?_
    refine LS.cond rfl (fun hc => ?_) (fun hc => by cases hc)
    repeat refine LS.seq ?_
    refine LS.region rfl ?_
    refine OS.pure rfl (fun _ => rfl) rfl ?_
    refine OS.pure rfl (fun _ => rfl) rfl ?_
    refine OS.nil ?_
    refine LS.ret ⟨_, fun _ _ => rfl, ?_⟩
    exact ⟨rfl, rfl⟩
  | false =>
    rw [if_neg (show ¬ (false = true) by decide)]
    by_cases hi : plainP s.n i
    · rw [if_pos hi]
      refine CS.mk (fn := Try.f43) rfl rfl rfl rfl ?_
      repeat refine LS.seq ?_
      refine LS.region rfl ?_
      refine OS.pure rfl (fun _ => rfl) rfl ?_
      refine OS.nil ?_
      repeat refine LS.seq ?_
      refine LS.region rfl ?_
      refine OS.pure rfl (fun _ => rfl) rfl ?_
      refine OS.call noGo rfl (fun _ => rfl) ((jrefusal_ct).mono ?_)
      rintro v L' ⟨rfl, rfl⟩
      rw [hd]
      refine ⟨_, rfl, ?_⟩
      refine OS.pure rfl (fun _ => rfl) rfl ?_
      refine OS.nil ?_
      repeat refine LS.seq ?_
      refine LS.region rfl ?_
      refine OS.pure rfl (fun _ => rfl) rfl ?_
      refine OS.pure rfl (fun _ => rfl) rfl ?_
      refine OS.nil ?_
      refine LS.cond rfl (fun hc => by cases hc) (fun hc => ?_)
      refine LS.skip ?_
      repeat refine LS.seq ?_
      refine LS.region rfl ?_
      refine OS.pure rfl (fun _ => rfl) rfl ?_
      refine OS.pure rfl (fun _ => rfl) rfl ?_
      refine OS.pure rfl (fun _ => rfl) rfl ?_
      refine OS.read rfl (e_load 0 rfl rfl rfl rfl rfl) rfl ?_
      refine OS.pure rfl (fun _ => rfl) rfl ?_
      refine OS.sub (Sub.pulls [2, 2] rfl) ?_
      refine OS.call noGo rfl (fun _ => rfl) ((isPlain_ct i).mono ?_)
      rintro v L' ⟨rfl, rfl⟩
      rw [decide_eq_true hi]
      refine ⟨_, rfl, ?_⟩
      refine OS.pure rfl (fun _ => rfl) rfl ?_
      refine OS.nil ?_
      refine LS.cond rfl (fun hc => by cases hc) (fun hc => ?_)
      refine LS.skip ?_
      repeat refine LS.seq ?_
      refine LS.region rfl ?_
      refine OS.pure rfl (fun _ => rfl) rfl ?_
      refine OS.pure rfl (fun _ => rfl) rfl ?_
      refine OS.pure rfl (fun _ => rfl) rfl ?_
      refine OS.read rfl (e_load 2 rfl rfl rfl rfl rfl) rfl ?_
      refine OS.pure rfl (fun _ => rfl) rfl ?_
      refine OS.pure rfl (fun _ => rfl) rfl ?_
      refine OS.call noGo rfl (fun _ => rfl) ((Write_all hs i hb.cons).mono ?_)
      rintro v L' ⟨rfl, rfl⟩
      refine ⟨_, rfl, ?_⟩
      refine OS.sub (Sub.pulls [2] rfl) ?_
      refine OS.pure rfl (fun _ => rfl) rfl ?_
      refine OS.nil ?_
      refine LS.ret ⟨_, fun _ _ => rfl, ?_⟩
      exact ⟨rfl, rfl⟩
    · rw [if_neg hi]
      refine CS.mk (fn := Try.f43) rfl rfl rfl rfl ?_
      repeat refine LS.seq ?_
      refine LS.region rfl ?_
      refine OS.pure rfl (fun _ => rfl) rfl ?_
      refine OS.nil ?_
      repeat refine LS.seq ?_
      refine LS.region rfl ?_
      refine OS.pure rfl (fun _ => rfl) rfl ?_
      refine OS.call noGo rfl (fun _ => rfl) ((jrefusal_ct).mono ?_)
      rintro v L' ⟨rfl, rfl⟩
      rw [hd]
      refine ⟨_, rfl, ?_⟩
      refine OS.pure rfl (fun _ => rfl) rfl ?_
      refine OS.nil ?_
      repeat refine LS.seq ?_
      refine LS.region rfl ?_
      refine OS.pure rfl (fun _ => rfl) rfl ?_
      refine OS.pure rfl (fun _ => rfl) rfl ?_
      refine OS.nil ?_
      refine LS.cond rfl (fun hc => by cases hc) (fun hc => ?_)
      refine LS.skip ?_
      repeat refine LS.seq ?_
      refine LS.region rfl ?_
      refine OS.pure rfl (fun _ => rfl) rfl ?_
      refine OS.pure rfl (fun _ => rfl) rfl ?_
      refine OS.pure rfl (fun _ => rfl) rfl ?_
      refine OS.read rfl (e_load 0 rfl rfl rfl rfl rfl) rfl ?_
      refine OS.pure rfl (fun _ => rfl) rfl ?_
      refine OS.sub (Sub.pulls [2, 2] rfl) ?_
      refine OS.call noGo rfl (fun _ => rfl) ((isPlain_ct i).mono ?_)
      rintro v L' ⟨rfl, rfl⟩
      rw [decide_eq_false hi]
      refine ⟨_, rfl, ?_⟩
      refine OS.sub (Sub.pulls [2] rfl) ?_
      refine OS.pure rfl (fun _ => rfl) rfl ?_
      refine OS.nil ?_
      refine LS.cond rfl (fun hc => ?_) (fun hc => by cases hc)
      repeat refine LS.seq ?_
      refine LS.region rfl ?_
      refine OS.pure rfl (fun _ => rfl) rfl ?_
      refine OS.nil ?_
      refine LS.ret ⟨_, fun _ _ => rfl, ?_⟩
      exact ⟨rfl, rfl⟩
theorem jRaw_nil {L : RL} (i b : Value) : CS Try.prog 43 [.pointer none, i, b] L fun v L' => v = .int .i64 2 ∧ L' = L := by
  refine CS.mk (fn := Try.f43) rfl rfl rfl rfl ?_
  repeat refine LS.seq ?_
  refine LS.region rfl ?_
  refine OS.pure rfl (fun _ => rfl) rfl ?_
  refine OS.nil ?_
  repeat refine LS.seq ?_
  refine LS.region rfl ?_
  refine OS.pure rfl (fun _ => rfl) rfl ?_
  refine OS.call noGo rfl (fun _ => rfl) ((jrefusal_nil).mono ?_)
  rintro v L' ⟨rfl, rfl⟩
  refine ⟨_, rfl, ?_⟩
  refine OS.pure rfl (fun _ => rfl) rfl ?_
  refine OS.nil ?_
  repeat refine LS.seq ?_
  refine LS.region rfl ?_
  refine OS.pure rfl (fun _ => rfl) rfl ?_
  refine OS.pure rfl (fun _ => rfl) rfl ?_
  refine OS.nil ?_
  refine LS.cond rfl (fun hc => ?_) (fun hc => by cases hc)
  repeat refine LS.seq ?_
  refine LS.region rfl ?_
  refine OS.pure rfl (fun _ => rfl) rfl ?_
  refine OS.pure rfl (fun _ => rfl) rfl ?_
  refine OS.nil ?_
  refine LS.ret ⟨_, fun _ _ => rfl, ?_⟩
  exact ⟨rfl, rfl⟩

theorem runW_append : ∀ {a b : List (Int × List UInt8)} {s : Dk}, runW s (a ++ b) = if (runW s a).1 = 0 then runW (runW s a).2 b else runW s a
  | [], b, s => by simp [runW]
  | w :: a, b, s => by
    simp only [List.cons_append, runW]
    split
    · exact runW_append
    · rfl
theorem runW_ok {n : Nat} : ∀ {ws : List (Int × List UInt8)} {s : Dk}, s.ok → s.wr + ws.length ≤ 1000000 → (runW s ws).2.ok ∧ (runW s ws).2.wr ≤ s.wr + ws.length ∧ (runW s ws).2.n = s.n
  | [], s, hs, _ => ⟨hs, Nat.le_refl _, rfl⟩
  | w :: ws, s, hs, hw => by
    simp only [List.length_cons] at hw
    have h1 := wrD_ok (i := w.1) (bs := w.2) hs (by omega)
    have h2 := wrD_wr (s := s) (i := w.1) (bs := w.2)
    have h3 := wrD_n (s := s) (i := w.1) (bs := w.2)
    simp only [runW]
    split
    · obtain ⟨a, b, c⟩ := runW_ok (n := n) (ws := ws) h1 (by omega)
      refine ⟨a, by simp only [List.length_cons]; omega, by rw [c, h3]⟩
    · refine ⟨h1, by simp only [List.length_cons]; omega, h3⟩
/-- All writes of a group. -/
def doW (ps : List (Int × List UInt8)) : List (Int × List UInt8) := layW ps ++ finW ps
theorem doW_len {ps : List (Int × List UInt8)} : (doW ps).length = 2 * ps.length + 2 := by unfold doW; rw [List.length_append, layW_len, finW_len]; omega
theorem good_256 {n : Nat} {gs : List Gw} (h : Good n (bd gs)) : ∀ g ∈ gs, g.d.length ≤ 1000000 := fun g hg => by
  have this : g.d.length = 256 := (h.1 (g.b, g.d) (List.mem_map.2 ⟨g, hg, rfl⟩)).2
  omega

end Go.Proofs.Yteiiekfccecoiaa
