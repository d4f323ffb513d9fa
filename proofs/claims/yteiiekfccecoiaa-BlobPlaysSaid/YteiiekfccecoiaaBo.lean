/- Layer 8: what the statements' own functions come to. -/
import Derived.Test.YteiiekfccecoiaaBn
namespace Go.Am
section
variable {P : Program} {o : Oper} {a : Slots} {xo yo : Operand} {t z : TypeId}
theorem e_add8 {c d : UInt8} (ho : o.op = .binOp .add t xo yo z) (hx : aev a xo = some (.int .u8 (c.toNat : Nat))) (hy : aev a yo = some (.int .u8 (d.toNat : Nat))) : ∀ h, opB P a o h = some (.val (.int .u8 ((c + d).toNat : Nat)) h) := by
  intro h
  have e : wrapB .u8 ((c.toNat : Int) + (d.toNat : Int)) = ((c + d).toNat : Nat) := by rw [wrapB_eq, IntKind.wrap_u8]; simp
  simp only [opB, ho, hx, hy, eqOk, binB, if_true, e, ret]
end
end Go.Am
namespace Go.Proofs.Yteiiekfccecoiaa
open Go.Am
set_option linter.unusedVariables false
set_option maxRecDepth 20000

theorem ints_get {xs : List Nat} {i : Nat} (h : i < xs.length) : (ints xs)[i]? = some (.int .i64 (xs[i]'h : Nat)) := by simp [h]
theorem ne_same (n : Int) : (!ieqB n n) = false := by rw [ieqB_eq]; simp
theorem Ints_ct {L : RL} {a b : Value} {xs : List Nat} (ha : SV 1 L a xs.length (ints xs)) (hb : SV 1 L b xs.length (ints xs)) (hm : xs.length ≤ 1000000) : CS Try.prog 33 [a, b] L fun v L' => v = .bool true ∧ L' = L := by
  refine CS.mk (fn := Try.f33) rfl rfl rfl rfl ?_
  repeat refine LS.seq ?_
  refine LS.region rfl ?_
  refine OS.pure rfl (fun _ => rfl) rfl ?_
  refine OS.nil ?_
  repeat refine LS.seq ?_
  refine LS.region rfl ?_
  refine OS.pure rfl (fun _ => rfl) rfl ?_
  refine OS.pure rfl (e_len ha rfl rfl rfl rfl rfl) rfl ?_
  refine OS.pure rfl (fun _ => rfl) rfl ?_
  refine OS.pure rfl (e_len hb rfl rfl rfl rfl rfl) rfl ?_
  refine OS.pure rfl (e_is (fun _ => rfl) (congrArg Value.bool (ne_same _))) rfl ?_
  refine OS.nil ?_
  refine LS.cond rfl (fun hc => by cases hc) (fun hc => ?_)
  refine LS.skip ?_
  repeat refine LS.seq ?_
  refine LS.region rfl ?_
  refine OS.pure rfl (fun _ => rfl) rfl ?_
  refine OS.nil ?_
  repeat refine LS.seq ?_
  refine LS.block ?_
  refine LS.loopJ [0, 1, 5] (fun q s L' => ∃ i, q = xs.length - i ∧ i ≤ xs.length ∧ L' = L ∧ s = [a, b, .chan none, .chan none, .chan none, .int .i64 (i : Nat), .chan none, .chan none, .chan none, .chan none, .chan none, .chan none, .chan none, .chan none, .chan none, .chan none, .chan none, .chan none, .chan none, .chan none, .chan none, .chan none, .chan none, .chan none, .chan none, .chan none]) (n := xs.length) rfl ⟨0, rfl, by omega, rfl, rfl⟩ ?_
  rintro q s L' ⟨i, rfl, hi, hLL, rfl⟩
  subst hLL
  repeat refine LS.seq ?_
  refine LS.region rfl ?_
  refine OS.pure rfl (fun _ => rfl) rfl ?_
  refine OS.pure rfl (fun _ => rfl) rfl ?_
  refine OS.pure rfl (e_len ha rfl rfl rfl rfl rfl) rfl ?_
  refine OS.pure rfl (fun _ => rfl) rfl ?_
  refine OS.nil ?_
  repeat refine LS.seq ?_
  refine LS.cond rfl (fun hc => ?_) (fun hc => ?_)
  · have hc := lt_of hc
    have hil : i < xs.length := by omega
    refine LS.skip ?_
    repeat refine LS.seq ?_
    refine LS.block ?_
    repeat refine LS.seq ?_
    refine LS.drawn noGo mixed [(0, false), (1, false), (2, false), (3, false), (4, false), (5, false), (6, false), (7, false), (8, false)] rfl rfl (by kernel_rfl) ?_
    refine ODS.pure rfl rfl (fun _ => rfl) rfl ?_
    refine ODS.pure rfl rfl (fun _ => rfl) rfl ?_
    refine ODS.at1 (j := i) ha (ints_get hil) rfl rfl rfl rfl rfl rfl rfl (fun r0 o0 row0 cs0 m0 c0 g0 => ?_)
    refine ⟨_, rfl, ?_⟩
    refine ODS.read rfl rfl (e_loadm m0 c0 rfl rfl (part_one rfl g0)) rfl ?_
    refine ODS.pure rfl rfl (fun _ => rfl) rfl ?_
    refine ODS.pure rfl rfl (fun _ => rfl) rfl ?_
    refine ODS.at1 (j := i) hb (ints_get hil) rfl rfl rfl rfl rfl rfl rfl (fun r1 o1 row1 cs1 m1 c1 g1 => ?_)
    refine ⟨_, rfl, ?_⟩
    refine ODS.read rfl rfl (e_loadm m1 c1 rfl rfl (part_one rfl g1)) rfl ?_
    refine ODS.pure rfl rfl (e_is (fun _ => rfl) (congrArg Value.bool (ne_same _))) rfl ?_
    refine ODS.nil ?_
    refine LS.cond rfl (fun hc => by cases hc) (fun hc => ?_)
    refine LS.skip ?_
    repeat refine LS.seq ?_
    refine LS.region rfl ?_
    refine OS.pure rfl (fun _ => rfl) rfl ?_
    refine OS.pure rfl (e_add rfl rfl rfl (in_i64 (by omega) (by omega))) rfl ?_
    refine OS.pure rfl (fun _ => rfl) rfl ?_
    refine OS.nil ?_
    exact ⟨xs.length - (i + 1), by omega, i + 1, rfl, by omega, rfl, rfl⟩
  · refine LS.exit ?_
    repeat refine LS.seq ?_
    refine LS.region rfl ?_
    refine OS.pure rfl (fun _ => rfl) rfl ?_
    refine OS.nil ?_
    refine LS.ret ⟨_, fun _ _ => rfl, ?_⟩
    exact ⟨rfl, rfl⟩

theorem refNeed_ct {L : RL} (n : Nat) (h : n ≤ 20000000) : CS Try.prog 18 [.int .i64 (n : Nat)] L fun v L' => v = .int .i64 (need n : Nat) ∧ L' = L := by
  have hb : (!ileB 0 (n : Int)) = false := by rw [ileB_eq]; simp
  refine CS.mk (fn := Try.f18) rfl rfl rfl rfl ?_
  repeat refine LS.seq ?_
  refine LS.region rfl ?_
  refine OS.pure rfl (fun _ => rfl) rfl ?_
  refine OS.nil ?_
  repeat refine LS.seq ?_
  refine LS.region rfl ?_
  refine OS.pure rfl (fun _ => rfl) rfl ?_
  refine OS.pure rfl (e_is (fun _ => rfl) (congrArg Value.bool hb)) rfl ?_
  refine OS.nil ?_
  refine LS.cond rfl (fun hc => by cases hc) (fun hc => ?_)
  refine LS.skip ?_
  repeat refine LS.seq ?_
  refine LS.region rfl ?_
  refine OS.pure rfl (fun _ => rfl) rfl ?_
  refine OS.nil ?_
  obtain ⟨K, hK⟩ : ∃ K, K = max 1 ((n + 255) / 256) := ⟨_, rfl⟩
  refine LS.seq ?_
  refine LS.mid [3] (fun a L' => L' = L ∧ a = [.chan none, .chan none, .chan none, .int .i64 (K : Nat), .chan none, .chan none, .chan none, .chan none, .chan none, .chan none, .chan none, .chan none, .chan none, .chan none, .chan none, .chan none, .chan none, .chan none, .chan none, .chan none, .chan none, .chan none]) ?_ ?_
  · refine LS.block ?_
    refine LS.loopJ [0, 3] (fun q a L' => ∃ k : Nat, q = 100000 - k ∧ 1 ≤ k ∧ (k = 1 ∨ 256 * (k - 1) < n) ∧ L' = L ∧ a = [.int .i64 (n : Nat), .chan none, .chan none, .int .i64 (k : Nat), .chan none, .chan none, .chan none, .chan none, .chan none, .chan none, .chan none, .chan none, .chan none, .chan none, .chan none, .chan none, .chan none, .chan none, .chan none, .chan none, .chan none, .chan none]) (n := 99999) rfl ⟨1, rfl, by omega, .inl rfl, rfl, rfl⟩ ?_
    rintro q a L' ⟨k, rfl, hk1, hk2, hLL, rfl⟩
    subst hLL
    repeat refine LS.seq ?_
    refine LS.region rfl ?_
    refine OS.pure rfl (fun _ => rfl) rfl ?_
    refine OS.pure rfl (e_is (e_mul (k := .i64) (m := 256) (n := ((k : Nat) : Int)) rfl rfl rfl (in_i64 (by omega) (by omega))) (congrArg (Value.int .i64) (show (256 : Int) * ((k : Nat) : Int) = ((256 * k : Nat) : Int) by omega))) rfl ?_
    refine OS.pure rfl (fun _ => rfl) rfl ?_
    refine OS.pure rfl (fun _ => rfl) rfl ?_
    refine OS.nil ?_
    repeat refine LS.seq ?_
    refine LS.cond rfl (fun hc => ?_) (fun hc => ?_)
    · have hc : ((256 * k : Nat) : Int) < n := lt_of hc
      refine LS.skip ?_
      repeat refine LS.seq ?_
      refine LS.block ?_
      repeat refine LS.seq ?_
      refine LS.region rfl ?_
      refine OS.pure rfl (fun _ => rfl) rfl ?_
      refine OS.pure rfl (e_is (e_add (k := .i64) (m := ((k : Nat) : Int)) (n := 1) rfl rfl rfl (in_i64 (by omega) (by omega))) (congrArg (Value.int .i64) (show ((k : Nat) : Int) + 1 = ((k + 1 : Nat) : Int) by omega))) rfl ?_
      refine OS.pure rfl (fun _ => rfl) rfl ?_
      refine OS.nil ?_
      exact ⟨100000 - (k + 1), by omega, k + 1, rfl, by omega, .inr (by simp; omega), rfl, rfl⟩
    have hc : (n : Int) ≤ ((256 * k : Nat) : Int) := nlt_of hc
    have : k = K := by rw [hK]; omega
    subst this
    refine LS.exit ?_
    exact ⟨rfl, rfl⟩
  rintro a L' ⟨hLL, rfl⟩
  subst hLL
  repeat refine LS.seq ?_
  refine LS.region rfl ?_
  refine OS.pure rfl (fun _ => rfl) rfl ?_
  refine OS.nil ?_
  refine LS.seq ?_
  obtain ⟨M, hM⟩ : ∃ M, M = (K + 119) / 120 := ⟨_, rfl⟩
  refine LS.mid [3, 4] (fun a L'' => L'' = L' ∧ a = [.chan none, .chan none, .chan none, .int .i64 (K : Nat), .int .i64 (M : Nat), .chan none, .chan none, .chan none, .chan none, .chan none, .chan none, .chan none, .chan none, .chan none, .chan none, .chan none, .chan none, .chan none, .chan none, .chan none, .chan none, .chan none]) ?_ ?_
  · refine LS.block ?_
    refine LS.loopJ [3, 4] (fun q a L'' => ∃ m : Nat, q = 100000 - m ∧ 1 ≤ m ∧ (m = 1 ∨ 120 * (m - 1) < K) ∧ L'' = L' ∧ a = [.chan none, .chan none, .chan none, .int .i64 (K : Nat), .int .i64 (m : Nat), .chan none, .chan none, .chan none, .chan none, .chan none, .chan none, .chan none, .chan none, .chan none, .chan none, .chan none, .chan none, .chan none, .chan none, .chan none, .chan none, .chan none]) (n := 99999) rfl ⟨1, rfl, by omega, .inl rfl, rfl, rfl⟩ ?_
    rintro q a L'' ⟨m, rfl, hm1, hm2, hLL, rfl⟩
    subst hLL
    repeat refine LS.seq ?_
    refine LS.region rfl ?_
    refine OS.pure rfl (fun _ => rfl) rfl ?_
    refine OS.pure rfl (e_is (e_mul (k := .i64) (m := 120) (n := ((m : Nat) : Int)) rfl rfl rfl (in_i64 (by omega) (by omega))) (congrArg (Value.int .i64) (show (120 : Int) * ((m : Nat) : Int) = ((120 * m : Nat) : Int) by omega))) rfl ?_
    refine OS.pure rfl (fun _ => rfl) rfl ?_
    refine OS.pure rfl (fun _ => rfl) rfl ?_
    refine OS.nil ?_
    repeat refine LS.seq ?_
    refine LS.cond rfl (fun hc => ?_) (fun hc => ?_)
    · have hc : ((120 * m : Nat) : Int) < K := lt_of hc
      refine LS.skip ?_
      repeat refine LS.seq ?_
      refine LS.block ?_
      repeat refine LS.seq ?_
      refine LS.region rfl ?_
      refine OS.pure rfl (fun _ => rfl) rfl ?_
      refine OS.pure rfl (e_is (e_add (k := .i64) (m := ((m : Nat) : Int)) (n := 1) rfl rfl rfl (in_i64 (by omega) (by omega))) (congrArg (Value.int .i64) (show ((m : Nat) : Int) + 1 = ((m + 1 : Nat) : Int) by omega))) rfl ?_
      refine OS.pure rfl (fun _ => rfl) rfl ?_
      refine OS.nil ?_
      exact ⟨100000 - (m + 1), by omega, m + 1, rfl, by omega, .inr (by simp; omega), rfl, rfl⟩
    have hc : (K : Int) ≤ ((120 * m : Nat) : Int) := nlt_of hc
    have : m = M := by rw [hM]; omega
    subst this
    refine LS.exit ?_
    exact ⟨rfl, rfl⟩
  rintro a L'' ⟨hLL, rfl⟩
  subst hLL
  repeat refine LS.seq ?_
  refine LS.region rfl ?_
  refine OS.pure rfl (fun _ => rfl) rfl ?_
  refine OS.pure rfl (fun _ => rfl) rfl ?_
  refine OS.pure rfl (e_is (e_add (k := .i64) (m := ((K : Nat) : Int)) (n := ((M : Nat) : Int)) rfl rfl rfl (in_i64 (by omega) (by omega))) (congrArg (Value.int .i64) (show ((K : Nat) : Int) + ((M : Nat) : Int) = (need n : Nat) by unfold need; rw [← hK, ← hM]; omega))) rfl ?_
  refine OS.pure rfl (fun _ => rfl) rfl ?_
  refine OS.nil ?_
  refine LS.ret ⟨_, fun _ _ => rfl, ?_⟩
  exact ⟨rfl, rfl⟩
theorem refNeed_neg {L : RL} (n : Int) (h : n < 0) : CS Try.prog 18 [.int .i64 n] L fun v L' => v = .int .i64 0 ∧ L' = L := by
  have hb : (!ileB 0 n) = true := by rw [ileB_eq]; simpa using h
  refine CS.mk (fn := Try.f18) rfl rfl rfl rfl ?_
  repeat refine LS.seq ?_
  refine LS.region rfl ?_
  refine OS.pure rfl (fun _ => rfl) rfl ?_
  refine OS.nil ?_
  repeat refine LS.seq ?_
  refine LS.region rfl ?_
  refine OS.pure rfl (fun _ => rfl) rfl ?_
  refine OS.pure rfl (e_is (fun _ => rfl) (congrArg Value.bool hb)) rfl ?_
  refine OS.nil ?_
  refine LS.cond rfl (fun hc => ?_) (fun hc => by cases hc)
  repeat refine LS.seq ?_
  refine LS.region rfl ?_
  refine OS.pure rfl (fun _ => rfl) rfl ?_
  refine OS.nil ?_
  refine LS.ret ⟨_, fun _ _ => rfl, ?_⟩
  exact ⟨rfl, rfl⟩

/-- So many bytes, none like the one ahead. -/
def valB (n : Nat) (c : UInt8) : List UInt8 := (List.range n).map fun i => c + u8of (i : Nat) + u8of ((i / 256 : Nat) : Int)
theorem valB_len (n : Nat) (c : UInt8) : (valB n c).length = n := by simp [valB]
theorem valB_succ (n : Nat) (c : UInt8) : valB (n + 1) c = valB n c ++ [c + u8of (n : Nat) + u8of ((n / 256 : Nat) : Int)] := by simp [valB, List.range_succ]
theorem value_ct {L : RL} (n : Nat) (c : UInt8) (h : n ≤ 1000000) : CS Try.prog 16 [.int .i64 (n : Nat), .int .u8 (c.toNat : Nat)] L fun v L' => v = txt (valB n c) ∧ L' = L := by
  suffices h : CS Try.prog 16 [.int .i64 (n : Nat), .int .u8 (c.toNat : Nat)] L fun v L' => v = txt (valB n c) ∧ ∃ x, L' = x :: L by
    exact h.less fun v L' ⟨h1, x, h2⟩ => ⟨_, by rw [h2]; exact Sub.tail, h1, rfl⟩
  refine CS.mk (fn := Try.f16) rfl rfl rfl rfl ?_
  repeat refine LS.seq ?_
  refine LS.region rfl ?_
  refine OS.pure rfl (fun _ => rfl) rfl ?_
  refine OS.nil ?_
  repeat refine LS.seq ?_
  refine LS.region rfl ?_
  refine OS.pure rfl (fun _ => rfl) rfl ?_
  refine OS.fresh rfl (e_make (l := n) (c := n) rfl rfl rfl makeT_bytes (Nat.le_refl _) (by omega) (by omega)) (fun _ => rfl) (fun r => ?_)
  rw [repL_u8]
  refine OS.pure rfl (fun _ => rfl) rfl ?_
  refine OS.nil ?_
  repeat refine LS.seq ?_
  refine LS.region rfl ?_
  refine OS.pure rfl (fun _ => rfl) rfl ?_
  refine OS.nil ?_
  repeat refine LS.seq ?_
  refine LS.block ?_
  refine LS.loopJ [0, 1, 5, 6] (fun q a L' => ∃ i : Nat, q = n - i ∧ i ≤ n ∧ L' = (r, .cells 5 (byteCells (valB i c ++ List.replicate (n - i) 0))) :: L ∧
    a = [.int .i64 (n : Nat), .int .u8 (c.toNat : Nat), .chan none, .chan none, .chan none, .slice (some ⟨r, 0, none⟩) n n, .int .i64 (i : Nat), .chan none, .chan none, .chan none, .chan none, .chan none, .chan none, .chan none, .chan none, .chan none, .chan none, .chan none, .chan none, .chan none, .chan none, .chan none, .chan none, .chan none, .chan none, .chan none, .chan none]) (n := n) rfl ⟨0, rfl, by omega, rfl, rfl⟩ ?_
  rintro q a L' ⟨i, rfl, hi, rfl, rfl⟩
  repeat refine LS.seq ?_
  refine LS.region rfl ?_
  refine OS.pure rfl (fun _ => rfl) rfl ?_
  refine OS.pure rfl (fun _ => rfl) rfl ?_
  refine OS.pure rfl (fun _ => rfl) rfl ?_
  refine OS.nil ?_
  repeat refine LS.seq ?_
  refine LS.cond rfl (fun hc => ?_) (fun hc => ?_)
  · have hc : (i : Int) < n := lt_of hc
    have hin : i < n := by omega
    refine LS.skip ?_
    repeat refine LS.seq ?_
    refine LS.block ?_
    repeat refine LS.seq ?_
    refine LS.region rfl ?_
    refine OS.pure rfl (fun _ => rfl) rfl ?_
    refine OS.pure rfl (fun _ => rfl) rfl ?_
    refine OS.pure rfl (fun _ => rfl) rfl ?_
    refine OS.pure rfl (fun _ => rfl) rfl ?_
    refine OS.pure rfl (e_conv8 rfl rfl rfl rfl) rfl ?_
    refine OS.pure rfl (e_add8 rfl rfl rfl) rfl ?_
    refine OS.pure rfl (fun _ => rfl) rfl ?_
    refine OS.pure rfl (e_quo (m := i) (n := 256) rfl rfl rfl (by decide) (in_i64 (by omega) (by omega))) rfl ?_
    refine OS.pure rfl (e_conv8 rfl rfl rfl rfl) rfl ?_
    refine OS.pure rfl (e_add8 rfl rfl rfl) rfl ?_
    refine OS.pure rfl (e_index (j := i) (sz := 1) rfl rfl rfl rfl rfl hin) rfl ?_
    rw [Nat.mul_one, Nat.zero_add]
    refine OS.write rfl (e_store 0 (n := 1) rfl rfl rfl rfl rfl rfl (lay_one (by rw [byteCells_len]; simp [valB_len]; omega)) rfl) rfl ?_
    have hset : (byteCells (valB i c ++ List.replicate (n - i) 0)).set i (.int .u8 ((c + u8of (i : Nat) + u8of ((i / 256 : Nat) : Int)).toNat : Nat)) = byteCells (valB (i + 1) c ++ List.replicate (n - (i + 1)) 0) := by
      rw [byteCells_append, List.set_append_right _ _ (by rw [byteCells_len, valB_len]; exact Nat.le_refl _), byteCells_len, valB_len, Nat.sub_self, show n - i = (n - (i + 1)) + 1 by omega, List.replicate_succ, valB_succ]
      simp [byteCells]
    rw [hset]
    refine OS.nil ?_
    repeat refine LS.seq ?_
    refine LS.region rfl ?_
    refine OS.pure rfl (fun _ => rfl) rfl ?_
    refine OS.pure rfl (e_add rfl rfl rfl (in_i64 (by omega) (by omega))) rfl ?_
    refine OS.pure rfl (fun _ => rfl) rfl ?_
    refine OS.nil ?_
    exact ⟨n - (i + 1), by omega, i + 1, rfl, by omega, rfl, rfl⟩
  have hc : (n : Int) ≤ i := nlt_of hc
  have hin : i = n := by omega
  subst hin
  rw [Nat.sub_self, List.replicate_zero, List.append_nil]
  refine LS.exit ?_
  repeat refine LS.seq ?_
  refine LS.region rfl ?_
  refine OS.pure rfl (fun _ => rfl) rfl ?_
  refine OS.read rfl (e_textSV (bs := valB i c) (SV.row (e := 5) (r := r) (n := i) (List.mem_cons_self ..) (by rw [byteCells_len, valB_len, Nat.mul_one])) rfl rfl rfl rfl rfl) rfl ?_
  refine OS.pure rfl (fun _ => rfl) rfl ?_
  refine OS.nil ?_
  refine LS.ret ⟨_, fun _ _ => rfl, ?_⟩
  exact ⟨rfl, _, rfl⟩

abbrev blank (n : Nat) : List UInt8 := List.replicate (n * 256) 0
abbrev dk0 : Dk := ⟨512, blank 512, 0, false, 0, false⟩
theorem dk0_ok : dk0.ok := ok_of (List.length_replicate ..) (by omega) (by omega) (by omega) (by omega)
theorem fresh_ct {L : RL} (n : Nat) (hn : n ≤ 300) : CS Try.prog 28 [.int .i64 (n : Nat)] L fun v L' => ∃ c Y, c.base = 150 ∧ v = .tuple #[ptr c.rd, ptr c.rm, ptr c.rD] ∧ L' = bl c dk0 (List.replicate n false) (Y ++ L) := by
  refine CS.mk (fn := Try.f28) rfl rfl rfl rfl ?_
  repeat refine LS.seq ?_
  refine LS.region rfl ?_
  refine OS.pure rfl (fun _ => rfl) rfl ?_
  refine OS.pure rfl (fun _ => rfl) rfl ?_
  refine OS.pure rfl (fun _ => rfl) rfl ?_
  refine OS.nil ?_
  repeat refine LS.seq ?_
  refine LS.region rfl ?_
  refine OS.call noGo rfl (fun _ => rfl) ((New_ct 512 (by omega) (by omega)).mono ?_)
  rintro v L' ⟨rd, rb, rfl, rfl⟩
  refine ⟨_, rfl, ?_⟩
  refine OS.pure rfl (fun _ => rfl) rfl ?_
  refine OS.pure rfl (fun _ => rfl) rfl ?_
  refine OS.pure rfl (fun _ => rfl) rfl ?_
  refine OS.pure rfl (fun _ => rfl) rfl ?_
  refine OS.pure rfl (fun _ => rfl) rfl ?_
  refine OS.nil ?_
  repeat refine LS.seq ?_
  refine LS.region rfl ?_
  refine OS.pure rfl (fun _ => rfl) rfl ?_
  refine OS.call noGo rfl (fun _ => rfl) ((Open_idle (s := dk0) dk0_ok rfl (blk_zeros (by omega))).mono ?_)
  rintro v L' ⟨rj, Y, rfl, rfl⟩
  refine ⟨_, rfl, ?_⟩
  refine OS.pure rfl (fun _ => rfl) rfl ?_
  refine OS.pure rfl (fun _ => rfl) rfl ?_
  refine OS.pure rfl (fun _ => rfl) rfl ?_
  refine OS.pure rfl (fun _ => rfl) rfl ?_
  refine OS.pure rfl (fun _ => rfl) rfl ?_
  refine OS.nil ?_
  repeat refine LS.seq ?_
  refine LS.region rfl ?_
  refine OS.pure rfl (fun _ => rfl) rfl ?_
  refine OS.call noGo rfl (fun _ => rfl) ((Z.New_ct n (by omega)).mono ?_)
  rintro v L' ⟨rm, rf, rfl, rfl⟩
  refine ⟨_, rfl, ?_⟩
  refine OS.pure rfl (fun _ => rfl) rfl ?_
  refine OS.pure rfl (fun _ => rfl) rfl ?_
  refine OS.pure rfl (fun _ => rfl) rfl ?_
  refine OS.pure rfl (fun _ => rfl) rfl ?_
  refine OS.pure rfl (fun _ => rfl) rfl ?_
  refine OS.sub (Sub.pulls [4, 4, 4] rfl) ?_
  refine OS.nil ?_
  repeat refine LS.seq ?_
  refine LS.region rfl ?_
  refine OS.pure rfl (fun _ => rfl) rfl ?_
  refine OS.pure rfl (fun _ => rfl) rfl ?_
  refine OS.call noGo rfl (fun _ => rfl) ((Open_ct (base := 150) (by omega) (by simp; omega) (by simp)).mono ?_)
  rintro v L' ⟨rD, rfl, rfl⟩
  refine ⟨_, rfl, ?_⟩
  refine OS.pure rfl (fun _ => rfl) rfl ?_
  refine OS.pure rfl (fun _ => rfl) rfl ?_
  refine OS.pure rfl (fun _ => rfl) rfl ?_
  refine OS.pure rfl (fun _ => rfl) rfl ?_
  refine OS.pure rfl (fun _ => rfl) rfl ?_
  refine OS.nil ?_
  repeat refine LS.seq ?_
  refine LS.region rfl ?_
  refine OS.pure rfl (fun _ => rfl) rfl ?_
  refine OS.pure rfl (fun _ => rfl) rfl ?_
  refine OS.pure rfl (fun _ => rfl) rfl ?_
  refine OS.pure rfl (fun _ => rfl) rfl ?_
  refine OS.pure rfl (fun _ => rfl) rfl ?_
  refine OS.pure rfl (fun _ => rfl) rfl ?_
  refine OS.pure rfl (fun _ => rfl) rfl ?_
  refine OS.pure rfl (fun _ => rfl) rfl ?_
  refine OS.pure rfl (fun _ => rfl) rfl ?_
  refine OS.pure rfl (fun _ => rfl) rfl ?_
  refine OS.pure rfl (fun _ => rfl) rfl ?_
  refine OS.pure rfl (fun _ => rfl) rfl ?_
  refine OS.pure rfl (fun _ => rfl) rfl ?_
  refine OS.pure rfl (fun _ => rfl) rfl ?_
  refine OS.nil ?_
  refine LS.cond rfl (fun hc => by cases hc) (fun hc => ?_)
  refine LS.skip ?_
  repeat refine LS.seq ?_
  refine LS.region rfl ?_
  refine OS.pure rfl (fun _ => rfl) rfl ?_
  refine OS.pure rfl (fun _ => rfl) rfl ?_
  refine OS.pure rfl (fun _ => rfl) rfl ?_
  refine OS.pure rfl (fun _ => rfl) rfl ?_
  refine OS.pure rfl (fun _ => rfl) rfl ?_
  refine OS.pure rfl (fun _ => rfl) rfl ?_
  refine OS.nil ?_
  refine LS.ret ⟨_, fun _ _ => rfl, ?_⟩
  exact ⟨⟨rD, rj, rd, rb, rm, rf, 150⟩, Y, rfl, rfl, rfl⟩
end Go.Proofs.Yteiiekfccecoiaa
