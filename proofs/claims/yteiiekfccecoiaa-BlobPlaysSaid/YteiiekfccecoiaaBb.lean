/- Layer 8: what a value needs, numbers written and read, sums. -/
import Derived.Test.YteiiekfccecoiaaBa
namespace Go.Proofs.Yteiiekfccecoiaa
open Go.Am
set_option linter.unusedVariables false
set_option maxRecDepth 20000

theorem dividedUp_ct {L : RL} (n m : Nat) (h0 : 0 < m) (h1 : n ≤ 1000000000000) (h2 : m ≤ 1000) : CS Try.prog 53 [.int .i64 (n : Nat), .int .i64 (m : Nat)] L fun v L' => v = .int .i64 (((n + (m - 1)) / m : Nat) : Int) ∧ L' = L := by
  obtain ⟨q, hqe⟩ : ∃ q, q = n / m := ⟨_, rfl⟩
  obtain ⟨r, hre⟩ : ∃ r, r = n % m := ⟨_, rfl⟩
  have hq : q ≤ n := by rw [hqe]; exact Nat.div_le_self _ _
  have hr : r < m := by rw [hre]; exact Nat.mod_lt _ h0
  have e : m * q + r = n := by rw [hqe, hre]; exact Nat.div_add_mod n m
  have key : q + min 1 r = (n + (m - 1)) / m := by
    rw [← e]
    rcases Nat.eq_zero_or_pos r with hz | hz
    · rw [hz, Nat.min_zero, Nat.add_zero, Nat.add_zero, Nat.mul_add_div h0, Nat.div_eq_of_lt (by omega), Nat.add_zero]
    · have e2 : m * q + r + (m - 1) = m * (q + 1) + (r - 1) := by rw [Nat.mul_add, Nat.mul_one]; omega
      rw [Nat.min_eq_left hz, e2, Nat.mul_add_div h0, Nat.div_eq_of_lt (show r - 1 < m by omega), Nat.add_zero]
  rw [← key]
  refine CS.mk (fn := Try.f53) rfl rfl rfl rfl ?_
  repeat refine LS.seq ?_
  refine LS.region rfl ?_
  refine OS.pure rfl (fun _ => rfl) rfl ?_
  refine OS.nil ?_
  repeat refine LS.seq ?_
  refine LS.drawn noGo mixed [(0, false), (1, false), (2, false), (3, false), (4, false), (5, false), (6, false), (7, false), (8, false)] rfl rfl (by kernel_rfl) ?_
  refine ODS.pure rfl rfl (fun _ => rfl) rfl ?_
  refine ODS.pure rfl rfl (fun _ => rfl) rfl ?_
  refine ODS.pure rfl rfl (e_is (e_quo (m := n) (n := m) rfl rfl rfl (by omega) (in_i64 (by rw [← hqe]; omega) (by rw [← hqe]; omega))) (congrArg (fun x : Nat => Value.int .i64 (x : Int)) hqe.symm)) rfl ?_
  refine ODS.pure rfl rfl (fun _ => rfl) rfl ?_
  refine ODS.pure rfl rfl (fun _ => rfl) rfl ?_
  refine ODS.pure rfl rfl (e_is (e_rem (m := n) (n := m) rfl rfl rfl (by omega)) (congrArg (fun x : Nat => Value.int .i64 (x : Int)) hre.symm)) rfl ?_
  refine ODS.pure rfl rfl (e_is (e_min rfl rfl rfl) (congrArg (Value.int .i64) (show min (1 : Int) ((r : Nat) : Int) = ((min 1 r : Nat) : Int) by omega))) rfl ?_
  refine ODS.pure rfl rfl (e_is (e_add (k := .i64) (m := ((q : Nat) : Int)) (n := ((min 1 r : Nat) : Int)) rfl rfl rfl (in_i64 (by omega) (by omega))) (congrArg (Value.int .i64) (show ((q : Nat) : Int) + ((min 1 r : Nat) : Int) = ((q + min 1 r : Nat) : Int) by omega))) rfl ?_
  refine ODS.pure rfl rfl (fun _ => rfl) rfl ?_
  refine ODS.nil ?_
  refine LS.ret ⟨_, fun _ _ => rfl, ?_⟩
  exact ⟨rfl, rfl⟩

theorem Need_ct {L : RL} (n : Nat) (h : n ≤ 100000000000) : CS Try.prog 27 [.int .i64 (n : Nat)] L fun v L' => v = .int .i64 (need n : Nat) ∧ L' = L := by
  have hb : (!ileB 0 (n : Int)) = false := by rw [ileB_eq]; simp
  refine CS.mk (fn := Try.f27) rfl rfl rfl rfl ?_
  repeat refine LS.seq ?_
  refine LS.region rfl ?_
  refine OS.pure rfl (fun _ => rfl) rfl ?_
  refine OS.nil ?_
  repeat refine LS.seq ?_
  refine LS.region rfl ?_
  refine OS.pure rfl (fun _ => rfl) rfl ?_
  refine OS.pure rfl (e_is (fun _ => rfl) (congrArg Value.bool hb)) rfl ?_
  refine OS.nil ?_
  refine LS.cond rfl (fun hc => by cases hc) (fun hc => ?_)
  refine LS.skip ?_
  repeat refine LS.seq ?_
  refine LS.region rfl ?_
  refine OS.pure rfl (fun _ => rfl) rfl ?_
  refine OS.call noGo rfl (fun _ => rfl) ((dividedUp_ct n 256 (by omega) (by omega) (by omega)).mono ?_)
  rintro v L' ⟨rfl, rfl⟩
  refine ⟨_, rfl, ?_⟩
  obtain ⟨k, hk⟩ : ∃ k, k = max 1 ((n + 255) / 256) := ⟨_, rfl⟩
  refine OS.pure rfl (e_is (e_max rfl rfl rfl) (congrArg (Value.int .i64) (show max (1 : Int) (((n + (256 - 1)) / 256 : Nat) : Int) = (k : Nat) by omega))) rfl ?_
  refine OS.pure rfl (fun _ => rfl) rfl ?_
  refine OS.nil ?_
  repeat refine LS.seq ?_
  refine LS.region rfl ?_
  refine OS.pure rfl (fun _ => rfl) rfl ?_
  refine OS.pure rfl (fun _ => rfl) rfl ?_
  refine OS.call noGo rfl (fun _ => rfl) ((dividedUp_ct k 120 (by omega) (by omega) (by omega)).mono ?_)
  rintro v L' ⟨rfl, rfl⟩
  refine ⟨_, rfl, ?_⟩
  refine OS.pure rfl (e_is (e_add (k := .i64) (m := ((k : Nat) : Int)) (n := (((k + (120 - 1)) / 120 : Nat) : Int)) rfl rfl rfl (in_i64 (by omega) (by omega))) (congrArg (Value.int .i64) (show ((k : Nat) : Int) + (((k + (120 - 1)) / 120 : Nat) : Int) = (need n : Nat) by unfold need; rw [← hk]; omega))) rfl ?_
  refine OS.pure rfl (fun _ => rfl) rfl ?_
  refine OS.nil ?_
  refine LS.ret ⟨_, fun _ _ => rfl, ?_⟩
  exact ⟨rfl, rfl⟩
theorem Need_neg {L : RL} (n : Int) (h : n < 0) : CS Try.prog 27 [.int .i64 n] L fun v L' => v = .int .i64 0 ∧ L' = L := by
  have hb : (!ileB 0 n) = true := by rw [ileB_eq]; simpa using h
  refine CS.mk (fn := Try.f27) rfl rfl rfl rfl ?_
  repeat refine LS.seq ?_
  refine LS.region rfl ?_
  refine OS.pure rfl (fun _ => rfl) rfl ?_
  refine OS.nil ?_
  repeat refine LS.seq ?_
  refine LS.region rfl ?_
  refine OS.pure rfl (fun _ => rfl) rfl ?_
  refine OS.pure rfl (e_is (fun _ => rfl) (congrArg Value.bool hb)) rfl ?_
  refine OS.nil ?_
  refine LS.cond rfl (fun hc => ?_) (fun hc => by cases hc)
  repeat refine LS.seq ?_
  refine LS.region rfl ?_
  refine OS.pure rfl (fun _ => rfl) rfl ?_
  refine OS.nil ?_
  refine LS.ret ⟨_, fun _ _ => rfl, ?_⟩
  exact ⟨rfl, rfl⟩

theorem dataAt_ct {L : RL} (k : Nat) : CS Try.prog 65 [.int .i64 (k : Nat)] L fun v L' => v = .int .i64 (dAt k : Nat) ∧ L' = L := by
  refine CS.mk (fn := Try.f65) rfl rfl rfl rfl ?_
  repeat refine LS.seq ?_
  refine LS.region rfl ?_
  refine OS.pure rfl (fun _ => rfl) rfl ?_
  refine OS.nil ?_
  rcases Nat.eq_zero_or_pos k with rfl | h
  · repeat refine LS.seq ?_
    refine LS.region rfl ?_
    refine OS.pure rfl (fun _ => rfl) rfl ?_
    refine OS.pure rfl (fun _ => rfl) rfl ?_
    refine OS.nil ?_
    refine LS.cond rfl (fun hc => ?_) (fun hc => by cases hc)
    repeat refine LS.seq ?_
    refine LS.region rfl ?_
    refine OS.pure rfl (fun _ => rfl) rfl ?_
    refine OS.nil ?_
    refine LS.ret ⟨_, fun _ _ => rfl, ?_⟩
    exact ⟨rfl, rfl⟩
  · have hb : ieqB (k : Int) 0 = false := by rw [ieqB_eq]; simp; omega
    have hd : dAt k = 2 := by unfold dAt; rw [if_neg (by omega)]
    rw [hd]
    repeat refine LS.seq ?_
    refine LS.region rfl ?_
    refine OS.pure rfl (fun _ => rfl) rfl ?_
    refine OS.pure rfl (e_is (fun _ => rfl) (congrArg Value.bool hb)) rfl ?_
    refine OS.nil ?_
    refine LS.cond rfl (fun hc => by cases hc) (fun hc => ?_)
    refine LS.skip ?_
    repeat refine LS.seq ?_
    refine LS.region rfl ?_
    refine OS.pure rfl (fun _ => rfl) rfl ?_
    refine OS.nil ?_
    refine LS.ret ⟨_, fun _ _ => rfl, ?_⟩
    exact ⟨rfl, rfl⟩

/-- A number's bytes are laid into a list of so many bytes, which stands in the midst of a row. -/
theorem setNumber_ct {L : RL} {r off cap m v : Nat} {e : TypeId} {D : List UInt8} (hm : m ≤ 8) (hv : v < 18446744073709551616) (hfit : off + m ≤ D.length) :
    CS Try.prog 64 [.slice (some ⟨r, off, none⟩) m cap, .int .u64 (v : Nat)] ((r, .cells e (byteCells D)) :: L) fun w L' => L' = (r, .cells e (byteCells (D.take off ++ (leB m v ++ D.drop (off + m))))) :: L := by
  refine CS.mk (fn := Try.f64) rfl rfl rfl rfl ?_
  repeat refine LS.seq ?_
  refine LS.region rfl ?_
  refine OS.pure rfl (fun _ => rfl) rfl ?_
  refine OS.pure rfl (fun _ => rfl) rfl ?_
  refine OS.pure rfl (fun _ => rfl) rfl ?_
  refine OS.nil ?_
  repeat refine LS.seq ?_
  refine LS.block ?_
  refine LS.loopJ [0, 1, 6, 7] (fun q a L' => ∃ i, q = m - i ∧ i ≤ m ∧ L' = (r, .cells e (byteCells (D.take off ++ (leB i v ++ D.drop (off + i))))) :: L ∧
    a = [.slice (some ⟨r, off, none⟩) m cap, .int .u64 (v : Nat), .chan none, .chan none, .chan none, .chan none, .int .i64 (m : Nat), .int .i64 (i : Nat), .chan none, .chan none, .chan none, .chan none, .chan none, .chan none, .chan none, .chan none, .chan none, .chan none, .chan none]) (n := m) rfl ⟨0, rfl, by omega, by simp [leB], rfl⟩ ?_
  rintro q a L' ⟨i, rfl, hi, rfl, rfl⟩
  repeat refine LS.seq ?_
  refine LS.region rfl ?_
  refine OS.pure rfl (fun _ => rfl) rfl ?_
  refine OS.nil ?_
  repeat refine LS.seq ?_
  refine LS.cond rfl (fun hc => ?_) (fun hc => ?_)
  · have hc : (i : Int) < m := lt_of hc
    have him : i < m := by omega
    have hlen : off + i < (D.take off ++ (leB i v ++ D.drop (off + i))).length := by simp; omega
    have hset : (D.take off ++ (leB i v ++ D.drop (off + i))).set (off + i) (UInt8.ofNat (v / 2 ^ (8 * i) % 256)) = D.take off ++ (leB (i + 1) v ++ D.drop (off + (i + 1))) := by
      have h1 : D.drop (off + i) = D[off + i] :: D.drop (off + (i + 1)) := by rw [List.drop_eq_getElem_cons (by omega)]; rfl
      rw [List.set_append_right _ _ (by simp; omega), leB_succ, h1]
      congr 1
      rw [show off + i - (D.take off).length = i by simp; omega, List.set_append_right _ _ (by simp), leB_len, Nat.sub_self]
      simp
    refine LS.skip ?_
    repeat refine LS.seq ?_
    refine LS.block ?_
    repeat refine LS.seq ?_
    refine LS.region rfl ?_
    refine OS.pure rfl (fun _ => rfl) rfl ?_
    refine OS.pure rfl (fun _ => rfl) rfl ?_
    refine OS.nil ?_
    repeat refine LS.seq ?_
    refine LS.region rfl ?_
    refine OS.pure rfl (fun _ => rfl) rfl ?_
    refine OS.pure rfl (fun _ => rfl) rfl ?_
    refine OS.pure rfl (fun _ => rfl) rfl ?_
    refine OS.pure rfl (fun _ => rfl) rfl ?_
    refine OS.pure rfl (e_is (e_mul (k := .i64) (m := 8) (n := ((i : Nat) : Int)) rfl rfl rfl (in_i64 (by omega) (by omega))) (congrArg (Value.int .i64) (show (8 : Int) * ((i : Nat) : Int) = ((8 * i : Nat) : Int) by omega))) rfl ?_
    refine OS.pure rfl (e_shr (k := .u64) (m := v) (s := 8 * i) rfl rfl rfl (by have : IntKind.u64.bits = 64 := rfl; omega)) rfl ?_
    refine OS.pure rfl (e_conv8 rfl rfl rfl rfl) rfl ?_
    refine OS.pure rfl (e_index (j := i) (sz := 1) rfl rfl rfl rfl rfl him) rfl ?_
    have hu : u8of ((v / 2 ^ (8 * i) : Nat) : Int) = UInt8.ofNat (v / 2 ^ (8 * i) % 256) := by unfold u8of; congr 1
    rw [hu, Nat.mul_one]
    refine OS.write rfl (e_store 0 (n := 1) rfl rfl rfl rfl rfl rfl (lay_one (by rw [byteCells_len]; exact hlen)) rfl) rfl ?_
    rw [show (byteCells (D.take off ++ (leB i v ++ D.drop (off + i)))).set (off + i) (.int .u8 ((UInt8.ofNat (v / 2 ^ (8 * i) % 256)).toNat : Nat)) = byteCells (D.take off ++ (leB (i + 1) v ++ D.drop (off + (i + 1)))) by rw [← hset]; simp [byteCells, List.map_set]]
    refine OS.nil ?_
    repeat refine LS.seq ?_
    refine LS.region rfl ?_
    refine OS.pure rfl (e_add rfl rfl rfl (in_i64 (by omega) (by omega))) rfl ?_
    refine OS.pure rfl (fun _ => rfl) rfl ?_
    refine OS.nil ?_
    exact ⟨m - (i + 1), by omega, i + 1, rfl, by omega, rfl, rfl⟩
  have hc : (m : Int) ≤ i := nlt_of hc
  have him : i = m := by omega
  subst him
  refine LS.exit ?_
  refine ⟨_, fun _ _ => rfl, ?_⟩
  rfl

theorem number_ct {L : RL} {b : Value} {m : Nat} {bs : List UInt8} (hb : SV 1 L b m (byteCells bs)) (hm : m ≤ 8) : CS Try.prog 71 [b] L fun v L' => v = .int .u64 (numB bs m : Nat) ∧ L' = L := by
  have hl : bs.length = m := by have := hb.len; rw [byteCells_len] at this; omega
  refine CS.mk (fn := Try.f71) rfl rfl rfl rfl ?_
  repeat refine LS.seq ?_
  refine LS.region rfl ?_
  refine OS.pure rfl (fun _ => rfl) rfl ?_
  refine OS.nil ?_
  repeat refine LS.seq ?_
  refine LS.region rfl ?_
  refine OS.pure rfl (fun _ => rfl) rfl ?_
  refine OS.nil ?_
  repeat refine LS.seq ?_
  refine LS.region rfl ?_
  refine OS.pure rfl (fun _ => rfl) rfl ?_
  refine OS.pure rfl (e_len hb rfl rfl rfl rfl rfl) rfl ?_
  refine OS.pure rfl (fun _ => rfl) rfl ?_
  refine OS.nil ?_
  repeat refine LS.seq ?_
  refine LS.block ?_
  refine LS.loopJ [3, 6, 7, 8] (fun q a L' => ∃ i, q = m - i ∧ i ≤ m ∧ L' = L ∧
    a = [.chan none, .chan none, .chan none, .int .u64 (numB bs i : Nat), .chan none, .chan none, b, .int .i64 (m : Nat), .int .i64 (i : Nat), .chan none, .chan none, .chan none, .chan none, .chan none, .chan none, .chan none, .chan none, .chan none, .chan none, .chan none, .chan none, .chan none]) (n := m) rfl ⟨0, rfl, by omega, rfl, rfl⟩ ?_
  rintro q a L' ⟨i, rfl, hi, rfl, rfl⟩
  repeat refine LS.seq ?_
  refine LS.region rfl ?_
  refine OS.pure rfl (fun _ => rfl) rfl ?_
  refine OS.nil ?_
  repeat refine LS.seq ?_
  refine LS.cond rfl (fun hc => ?_) (fun hc => ?_)
  · have hc : (i : Int) < m := lt_of hc
    have him : i < m := by omega
    have hget : bs[i]? = some bs[i] := List.getElem?_eq_getElem (by omega)
    have hlt := numB_lt bs i
    have hlt2 := numB_lt bs (i + 1)
    have hp : (2 : Nat) ^ (8 * i) ≤ 2 ^ 56 := Nat.pow_le_pow_right (by omega) (by omega)
    have hp2 : (2 : Nat) ^ (8 * (i + 1)) ≤ 2 ^ 64 := Nat.pow_le_pow_right (by omega) (by omega)
    have hstep : numB bs (i + 1) = numB bs i + bs[i].toNat * 2 ^ (8 * i) := by simp only [numB]; rw [hget, Option.getD_some]
    have hc8 := bs[i].toNat_lt
    refine LS.skip ?_
    repeat refine LS.seq ?_
    refine LS.block ?_
    repeat refine LS.seq ?_
    refine LS.region rfl ?_
    refine OS.pure rfl (fun _ => rfl) rfl ?_
    refine OS.at1 (j := i) (u := .int .u8 (bs[i].toNat : Nat)) hb (by simp [byteCells, hget]) rfl rfl rfl rfl rfl rfl (fun r0 o0 row0 cs0 m0 c0 g0 => ?_)
    refine ⟨_, rfl, ?_⟩
    refine OS.read rfl (e_loadm m0 c0 rfl rfl (part_one rfl g0)) rfl ?_
    refine OS.pure rfl (fun _ => rfl) rfl ?_
    refine OS.pure rfl (fun _ => rfl) rfl ?_
    refine OS.nil ?_
    repeat refine LS.seq ?_
    refine LS.region rfl ?_
    refine OS.pure rfl (fun _ => rfl) rfl ?_
    refine OS.pure rfl (fun _ => rfl) rfl ?_
    refine OS.pure rfl (e_conv (k' := .u64) rfl rfl rfl rfl (in_u64 (by omega) (by omega))) rfl ?_
    refine OS.pure rfl (fun _ => rfl) rfl ?_
    refine OS.pure rfl (e_is (e_mul (k := .i64) (m := 8) (n := ((i : Nat) : Int)) rfl rfl rfl (in_i64 (by omega) (by omega))) (congrArg (Value.int .i64) (show (8 : Int) * ((i : Nat) : Int) = ((8 * i : Nat) : Int) by omega))) rfl ?_
    refine OS.pure rfl (e_shl (k := .u64) (m := bs[i].toNat) (s := 8 * i) rfl rfl rfl (by have : IntKind.u64.bits = 64 := rfl; omega) (in_u64 (by omega) (by omega))) rfl ?_
    refine OS.pure rfl (e_is (e_or rfl rfl rfl (by omega) (by omega)) (congrArg (fun x : Nat => Value.int .u64 (x : Int)) ((or_byte hlt).trans hstep.symm))) rfl ?_
    refine OS.pure rfl (fun _ => rfl) rfl ?_
    refine OS.nil ?_
    repeat refine LS.seq ?_
    refine LS.region rfl ?_
    refine OS.pure rfl (e_add rfl rfl rfl (in_i64 (by omega) (by omega))) rfl ?_
    refine OS.pure rfl (fun _ => rfl) rfl ?_
    refine OS.nil ?_
    exact ⟨m - (i + 1), by omega, i + 1, rfl, by omega, rfl, rfl⟩
  have hc : (m : Int) ≤ i := nlt_of hc
  have him : i = m := by omega
  subst him
  refine LS.exit ?_
  repeat refine LS.seq ?_
  refine LS.region rfl ?_
  refine OS.pure rfl (fun _ => rfl) rfl ?_
  refine OS.pure rfl (fun _ => rfl) rfl ?_
  refine OS.nil ?_
  refine LS.ret ⟨_, fun _ _ => rfl, ?_⟩
  exact ⟨rfl, rfl⟩
/-- A slice of a block's bytes. -/
theorem sv_cut {L : RL} {r : Nat} {e : TypeId} {D : List UInt8} {off m cap : Nat} (hm : (r, .cells e (byteCells D)) ∈ L) (h : off + m ≤ D.length) : SV 1 L (.slice (some ⟨r, off, none⟩) m cap) m (byteCells ((D.drop off).take m)) :=
  .inr ⟨r, off, cap, _, _, rfl, hm, rfl, by rw [Nat.mul_one]; exact cut_bytes h⟩
theorem linkIn_ct {L : RL} {r : Nat} {e : TypeId} {D : List UInt8} (hm : (r, .cells e (byteCells D)) ∈ L) (hl : D.length = 256) : CS Try.prog 84 [.slice (some ⟨r, 0, none⟩) 256 256] L fun v L' => v = .int .i64 (numB (D.take 2) 2 : Nat) ∧ L' = L := by
  have hlt : numB (D.take 2) 2 < 65536 := numB_lt _ 2
  refine CS.mk (fn := Try.f84) rfl rfl rfl rfl ?_
  repeat refine LS.seq ?_
  refine LS.region rfl ?_
  refine OS.pure rfl (fun _ => rfl) rfl ?_
  refine OS.nil ?_
  repeat refine LS.seq ?_
  refine LS.region rfl ?_
  refine OS.pure rfl (fun _ => rfl) rfl ?_
  refine OS.pure rfl (fun _ => rfl) rfl ?_
  refine OS.call noGo rfl (fun _ => rfl) ((number_ct (sv_cut (off := 0) (m := 2) hm (by omega)) (by omega)).mono ?_)
  rintro v L' ⟨rfl, rfl⟩
  rw [List.drop_zero]
  refine ⟨_, rfl, ?_⟩
  refine OS.pure rfl (e_conv (k' := .i64) rfl rfl rfl rfl (in_i64 (by omega) (by omega))) rfl ?_
  refine OS.pure rfl (fun _ => rfl) rfl ?_
  refine OS.nil ?_
  refine LS.ret ⟨_, fun _ _ => rfl, ?_⟩
  exact ⟨rfl, rfl⟩
theorem sizeIn_ct {L : RL} {r : Nat} {e : TypeId} {D : List UInt8} (hm : (r, .cells e (byteCells D)) ∈ L) (hl : D.length = 256) : CS Try.prog 72 [.slice (some ⟨r, 0, none⟩) 256 256] L fun v L' => v = .int .i64 (numB ((D.drop 2).take 3) 3 : Nat) ∧ L' = L := by
  have hlt : numB ((D.drop 2).take 3) 3 < 16777216 := numB_lt _ 3
  refine CS.mk (fn := Try.f72) rfl rfl rfl rfl ?_
  repeat refine LS.seq ?_
  refine LS.region rfl ?_
  refine OS.pure rfl (fun _ => rfl) rfl ?_
  refine OS.nil ?_
  repeat refine LS.seq ?_
  refine LS.region rfl ?_
  refine OS.pure rfl (fun _ => rfl) rfl ?_
  refine OS.pure rfl (fun _ => rfl) rfl ?_
  refine OS.call noGo rfl (fun _ => rfl) ((number_ct (sv_cut (off := 2) (m := 3) hm (by omega)) (by omega)).mono ?_)
  rintro v L' ⟨rfl, rfl⟩
  refine ⟨_, rfl, ?_⟩
  refine OS.pure rfl (e_conv (k' := .i64) rfl rfl rfl rfl (in_i64 (by omega) (by omega))) rfl ?_
  refine OS.pure rfl (fun _ => rfl) rfl ?_
  refine OS.nil ?_
  refine LS.ret ⟨_, fun _ _ => rfl, ?_⟩
  exact ⟨rfl, rfl⟩

theorem add_ct {L : RL} {rs : Nat} {s : Int} {v : Value} {n : Nat} {bs : List UInt8} (hv : SV 1 L v n (byteCells bs)) (hn : n ≤ 1000000) : CS Try.prog 82 [v, ptr rs] ((rs, .cells 107 [.int .u64 s]) :: L) fun v' L' => L' = (rs, .cells 107 [.int .u64 (fnv s bs)]) :: L := by
  have hl : bs.length = n := by have := hv.len; rw [byteCells_len] at this; omega
  refine CS.mk (fn := Try.f82) rfl rfl rfl rfl ?_
  repeat refine LS.seq ?_
  refine LS.region rfl ?_
  refine OS.pure rfl (fun _ => rfl) rfl ?_
  refine OS.pure rfl (e_len (L := L) hv rfl rfl rfl rfl rfl) rfl ?_
  refine OS.pure rfl (fun _ => rfl) rfl ?_
  refine OS.nil ?_
  repeat refine LS.seq ?_
  refine LS.block ?_
  refine LS.loopJ [1, 5, 6, 7] (fun q a L' => ∃ j, q = n - j ∧ j ≤ n ∧ L' = (rs, .cells 107 [.int .u64 (fnv s (bs.take j))]) :: L ∧
    a = [.chan none, ptr rs, .chan none, .chan none, .chan none, v, .int .i64 (n : Nat), .int .i64 (j : Nat), .chan none, .chan none, .chan none, .chan none, .chan none, .chan none, .chan none, .chan none, .chan none]) (n := n) rfl ⟨0, rfl, by omega, rfl, rfl⟩ ?_
  rintro q a L' ⟨j, rfl, hj, rfl, rfl⟩
  repeat refine LS.seq ?_
  refine LS.region rfl ?_
  refine OS.pure rfl (fun _ => rfl) rfl ?_
  refine OS.nil ?_
  repeat refine LS.seq ?_
  refine LS.cond rfl (fun hc => ?_) (fun hc => ?_)
  · have hc : (j : Int) < n := lt_of hc
    have hjn : j < n := by omega
    have hget : bs[j]? = some bs[j] := List.getElem?_eq_getElem (by omega)
    refine LS.skip ?_
    repeat refine LS.seq ?_
    refine LS.block ?_
    repeat refine LS.seq ?_
    refine LS.region rfl ?_
    refine OS.at1 (j := j) (u := .int .u8 (bs[j].toNat : Nat)) hv.cons (by simp [byteCells, hget]) rfl rfl rfl rfl rfl rfl (fun r0 o0 row0 cs0 m0 c0 g0 => ?_)
    refine ⟨_, rfl, ?_⟩
    refine OS.read rfl (e_loadm m0 c0 rfl rfl (part_one rfl g0)) rfl ?_
    refine OS.pure rfl (fun _ => rfl) rfl ?_
    refine OS.nil ?_
    repeat refine LS.seq ?_
    refine LS.region rfl ?_
    refine OS.read rfl (e_load 0 rfl rfl rfl rfl rfl) rfl ?_
    refine OS.pure rfl (fun _ => rfl) rfl ?_
    refine OS.pure rfl (e_conv rfl rfl rfl rfl (in_u64 (by omega) (by have := bs[j].toNat_lt; omega))) rfl ?_
    refine OS.pure rfl (fun _ => rfl) rfl ?_
    refine OS.pure rfl (fun _ => rfl) rfl ?_
    refine OS.write rfl (e_store 0 rfl rfl rfl rfl rfl rfl rfl rfl) rfl ?_
    refine OS.nil ?_
    repeat refine LS.seq ?_
    refine LS.region rfl ?_
    refine OS.pure rfl (e_add rfl rfl rfl (in_i64 (by omega) (by omega))) rfl ?_
    refine OS.pure rfl (fun _ => rfl) rfl ?_
    refine OS.nil ?_
    exact ⟨n - (j + 1), by omega, j + 1, rfl, by omega, by rw [fnv_succ hget]; rfl, rfl⟩
  have hc : (n : Int) ≤ j := nlt_of hc
  have hjn : j = bs.length := by omega
  subst hjn
  rw [List.take_length]
  refine LS.exit ?_
  refine ⟨_, fun _ _ => rfl, ?_⟩
  rfl
end Go.Proofs.Yteiiekfccecoiaa
