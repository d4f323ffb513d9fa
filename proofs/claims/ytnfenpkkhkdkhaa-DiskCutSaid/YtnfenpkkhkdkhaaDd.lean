/- Layer 3: DiskCut. -/
import Derived.Test.YtnfenpkkhkdkhaaDc
namespace Go.Am
variable {P : Program} {o : Oper} {a : Slots} {x : Operand}
/-- A whole number, taken as one without a sign. -/
def un (n : Int) : Nat := (n % 18446744073709551616).toNat
theorem un_lt (n : Int) : un n < 18446744073709551616 := by unfold un; omega
theorem e_convU {src dst : TypeId} {n : Int} (ho : o.op = .convert src dst x) (hx : aev a x = some (.int .i64 n)) (hs : P.underlying src = some (.int .i64)) (hd : P.underlying dst = some (.int .u64)) : ∀ h, opB P a o h = some (.val (.int .u64 (un n : Nat)) h) := by
  intro h
  have e : wrapB .u64 n = (un n : Nat) := by rw [wrapB_eq, wrap_u64]; unfold un; omega
  simp only [opB, ho, hx, convB, hs, hd, e, ret2]
end Go.Am
namespace Go.Proofs.Ytnfenpkkhkdkhaa
open Go.Am
set_option linter.unusedVariables false
set_option maxRecDepth 20000

/-- What each block should be full of, as whole numbers. -/
abbrev wc (ws : List UInt8) : List Value := ws.map fun c => .int .i64 (c.toNat : Nat)
/-- The disk behind i writes, cut behind n. -/
def St (n i : Nat) (D : List UInt8) : Dk := if i ≤ n then ⟨512, D, i, true, n - i, false⟩ else ⟨512, D, n, true, 0, true⟩
theorem St_le {n i : Nat} {D : List UInt8} (h : i ≤ n) : St n i D = ⟨512, D, i, true, n - i, false⟩ := if_pos h
theorem St_gt {n i : Nat} {D : List UInt8} (h : n < i) : St n i D = ⟨512, D, n, true, 0, true⟩ := if_neg (by omega)
def Full (D : List UInt8) (ws : List UInt8) : Prop := ws.length = 512 ∧ D.length = 512 * 256 ∧ ∀ j c, ws[j]? = some c → blk D j = List.replicate 256 c
theorem Full.set {D ws : List UInt8} (h : Full D ws) {k : Nat} (hk : k < 512) (c : UInt8) : Full (put D k (List.replicate 256 c)) (ws.set k c) := by
  obtain ⟨h1, h2, h3⟩ := h
  refine ⟨by rw [List.length_set, h1], put_len h2 hk List.length_replicate, fun j d hj => ?_⟩
  by_cases e : j = k
  · subst e
    rw [List.getElem?_set_self (by omega)] at hj
    cases hj
    exact blk_put_same h2 hk List.length_replicate
  · rw [List.getElem?_set_ne (by omega)] at hj
    rw [blk_put_ne h2 hk List.length_replicate e]
    exact h3 j d hj
theorem wc_set {ws : List UInt8} (h : ws.length = 512) {k : Nat} (hk : k < 512) (c : UInt8) : lay (wc ws) (0 + k * 1) [.int .i64 (c.toNat : Nat)] = some (wc (ws.set k c)) := by
  rw [lay_of (by simp; omega), show 0 + k * 1 = k by omega]
  unfold wc
  rw [List.map_set, List.set_eq_take_append_cons_drop, if_pos (by simp; omega)]
  rfl
theorem makeT_ints : makeT Try.prog 42 = some (3, 1, 8, [.int .i64 0]) := by kernel_rfl
theorem repL_ints {n : Nat} : repL [Value.int .i64 0] n = wc (List.replicate n 0) := by
  simp [repL, wc, List.flatten_replicate_singleton]
theorem Full.zeros : Full (List.replicate (512 * 256) 0) (List.replicate 512 0) := by
  refine ⟨List.length_replicate, List.length_replicate, fun j c h => ?_⟩
  rw [List.getElem?_replicate] at h
  split at h
  · cases h; exact blk_zeros (by assumption)
  · cases h
theorem u8_of {i : Nat} (h : i < 255) : ((i : Nat) : Int) + 1 = ((UInt8.ofNat (i + 1)).toNat : Nat) := by
  rw [show (UInt8.ofNat (i + 1)).toNat = i + 1 by simp; omega]; omega

theorem u8_get {ws : List UInt8} {j : Nat} {c : UInt8} (h : ws[j]? = some c) : (wc ws)[0 + j * 1]? = some (.int .i64 (c.toNat : Nat)) := by
  rw [show 0 + j * 1 = j by omega, List.getElem?_map, h]; rfl

theorem cut_ct {L : RL} {v : Value} {m : Nat} {zs : List Int} (hv : SV 1 L v m (zs.map fun z => .int .i64 z)) (hm : m ≤ 9223372036854775807) (cut : Int) : CS Try.prog 8 [v, .int .i64 cut] L fun v' _ => v' = .bool true := by
  have hlen : zs.length = m := by have := hv.len; simpa using this
  refine CS.mk (fn := Try.f8) rfl rfl rfl rfl ?_
  repeat refine LS.seq ?_
  refine LS.region rfl ?_
  refine OS.pure rfl (fun _ => rfl) rfl ?_
  refine OS.nil ?_
  by_cases hm2 : 200 < m
  · have hb : (!ileB (m : Int) 200) = true := by rw [ileB_eq]; simp; omega
    repeat refine LS.seq ?_
    refine LS.region rfl ?_
    refine OS.call noGo rfl (fun _ => rfl) ((works_ct).mono ?_)
    rintro v' L' ⟨rfl, rfl⟩
    refine ⟨_, rfl, ?_⟩
    refine OS.pure rfl (fun _ => rfl) rfl ?_
    refine OS.pure rfl (fun _ => rfl) rfl ?_
    refine OS.pure rfl (fun _ => rfl) rfl ?_
    refine OS.pure rfl (e_len hv rfl rfl rfl rfl rfl) rfl ?_
    refine OS.pure rfl (e_is (fun _ => rfl) (congrArg Value.bool hb)) rfl ?_
    refine OS.pure rfl (fun _ => rfl) rfl ?_
    refine OS.nil ?_
    refine LS.cond rfl (fun hc => ?_) (fun hc => by cases hc)
    repeat refine LS.seq ?_
    refine LS.region rfl ?_
    refine OS.call noGo rfl (fun _ => rfl) ((works_ct).mono ?_)
    rintro v' L' ⟨rfl, rfl⟩
    refine ⟨_, rfl, ?_⟩
    refine OS.pure rfl (fun _ => rfl) rfl ?_
    refine OS.nil ?_
    refine LS.ret ⟨_, fun _ _ => rfl, ?_⟩
    rfl
  have hb : (!ileB (m : Int) 200) = false := by rw [ileB_eq]; simp; omega
  repeat refine LS.seq ?_
  refine LS.region rfl ?_
  refine OS.call noGo rfl (fun _ => rfl) ((works_ct).mono ?_)
  rintro v' L' ⟨rfl, hLL⟩
  have hLL := hLL.symm
  subst hLL
  refine ⟨_, rfl, ?_⟩
  refine OS.pure rfl (fun _ => rfl) rfl ?_
  refine OS.pure rfl (fun _ => rfl) rfl ?_
  refine OS.pure rfl (fun _ => rfl) rfl ?_
  refine OS.pure rfl (e_len hv rfl rfl rfl rfl rfl) rfl ?_
  refine OS.pure rfl (e_is (fun _ => rfl) (congrArg Value.bool hb)) rfl ?_
  refine OS.pure rfl (fun _ => rfl) rfl ?_
  refine OS.nil ?_
  refine LS.cond rfl (fun hc => by cases hc) (fun hc => ?_)
  refine LS.skip ?_
  repeat refine LS.seq ?_
  refine LS.region rfl ?_
  refine OS.call noGo rfl (fun _ => rfl) ((New_ct 512 (by omega) (by omega)).mono ?_)
  rintro v' L' ⟨rd, rb, rfl, rfl⟩
  have hF0 := Full.zeros
  generalize List.replicate (512 * 256) (0 : UInt8) = D0 at hF0
  refine ⟨_, rfl, ?_⟩
  refine OS.pure rfl (fun _ => rfl) rfl ?_
  refine OS.pure rfl (fun _ => rfl) rfl ?_
  refine OS.pure rfl (fun _ => rfl) rfl ?_
  refine OS.pure rfl (fun _ => rfl) rfl ?_
  refine OS.pure rfl (fun _ => rfl) rfl ?_
  refine OS.nil ?_
  have hN : un cut % 210 < 210 := Nat.mod_lt _ (by omega)
  repeat refine LS.seq ?_
  refine LS.region rfl ?_
  refine OS.pure rfl (fun _ => rfl) rfl ?_
  refine OS.pure rfl (e_convU rfl rfl rfl rfl) rfl ?_
  refine OS.pure rfl (e_rem (n := 210) rfl rfl rfl (by decide)) rfl ?_
  refine OS.pure rfl (e_conv rfl rfl rfl rfl (in_i64 (by omega) (by omega))) rfl ?_
  refine OS.pure rfl (fun _ => rfl) rfl ?_
  refine OS.nil ?_
  generalize un cut % 210 = n at hN
  repeat refine LS.seq ?_
  refine LS.region rfl ?_
  refine OS.pure rfl (fun _ => rfl) rfl ?_
  refine OS.pure rfl (fun _ => rfl) rfl ?_
  refine OS.pure rfl (fun _ => rfl) rfl ?_
  refine OS.pure rfl (fun _ => rfl) rfl ?_
  refine OS.pure rfl (fun _ => rfl) rfl ?_
  refine OS.call noGo rfl (fun _ => rfl) ((Cut_ct (s := ⟨512, D0, 0, false, 0, false⟩) rfl n (by omega)).mono ?_)
  rintro v' L' ⟨rfl, rfl⟩
  refine ⟨_, rfl, ?_⟩
  refine OS.pure rfl (fun _ => rfl) rfl ?_
  refine OS.pure rfl (fun _ => rfl) rfl ?_
  refine OS.nil ?_
  refine LS.cond rfl (fun hc => by cases hc) (fun hc => ?_)
  refine LS.skip ?_
  repeat refine LS.seq ?_
  refine LS.region rfl ?_
  refine OS.fresh rfl (e_make (l := 512) (c := 512) rfl rfl rfl makeT_ints (Nat.le_refl _) (by omega) (by omega)) (fun _ => rfl) (fun rw => ?_)
  rw [repL_ints]
  refine OS.sub (Sub.pulls [2, 2] rfl) ?_
  refine OS.pure rfl (fun _ => rfl) rfl ?_
  refine OS.nil ?_
  generalize List.replicate 512 (0 : UInt8) = ws0 at hF0
  repeat refine LS.seq ?_
  refine LS.region rfl ?_
  refine OS.pure rfl (fun _ => rfl) rfl ?_
  refine OS.nil ?_
  repeat refine LS.seq ?_
  refine LS.block ?_
  refine LS.loopJ [0, 4, 5, 7, 8, 9] (fun q a L' => ∃ i ws D, q = m - i ∧ i ≤ m ∧ Full D ws ∧ L' = dk rd rb (St n i D) ((rw, .cells 3 (wc ws)) :: L) ∧
    a = [v, .chan none, .chan none, .chan none, .bool false, ptr rd, .chan none, .int .i64 (n : Nat), .slice (some ⟨rw, 0, none⟩) 512 512, .int .i64 (i : Nat), .chan none, .chan none, .chan none, .chan none, .chan none, .chan none, .chan none, .chan none, .chan none, .chan none, .chan none, .chan none, .chan none, .chan none, .chan none, .chan none, .chan none, .chan none, .chan none, .chan none, .chan none, .chan none, .chan none, .chan none, .chan none, .chan none, .chan none, .chan none, .chan none, .chan none, .chan none, .chan none, .chan none, .chan none, .chan none, .chan none, .chan none, .chan none, .chan none, .chan none, .chan none, .chan none, .chan none, .chan none, .chan none, .chan none, .chan none, .chan none, .chan none, .chan none, .chan none, .chan none, .chan none, .chan none, .chan none, .chan none, .chan none, .chan none, .chan none, .chan none, .chan none, .chan none, .chan none, .chan none, .chan none, .chan none, .chan none, .chan none, .chan none, .chan none, .chan none, .chan none, .chan none, .chan none, .chan none, .chan none, .chan none, .chan none, .chan none, .chan none, .chan none, .chan none, .chan none, .chan none, .chan none, .chan none, .chan none, .chan none, .chan none, .chan none, .chan none, .chan none, .chan none, .chan none, .chan none, .chan none, .chan none, .chan none, .chan none, .chan none, .chan none, .chan none, .chan none, .chan none, .chan none, .chan none, .chan none, .chan none, .chan none, .chan none, .chan none, .chan none, .chan none, .chan none, .chan none, .chan none, .chan none, .chan none]) (n := m) rfl ⟨0, ws0, D0, rfl, by omega, hF0, by rw [St_le (Nat.zero_le _)]; rfl, rfl⟩ ?_
  rintro q a L' ⟨i, ws, D, rfl, hi, hF, rfl, rfl⟩
  have hvd : ∀ {s : Dk}, SV 1 (dk rd rb s ((rw, .cells 3 (wc ws)) :: L)) v m (zs.map fun z => .int .i64 z) := hv.cons.cons.cons
  repeat refine LS.seq ?_
  refine LS.region rfl ?_
  refine OS.pure rfl (fun _ => rfl) rfl ?_
  refine OS.pure rfl (fun _ => rfl) rfl ?_
  refine OS.pure rfl (e_len hv rfl rfl rfl rfl rfl) rfl ?_
  refine OS.pure rfl (fun _ => rfl) rfl ?_
  refine OS.nil ?_
  repeat refine LS.seq ?_
  refine LS.cond rfl (fun hc => ?_) (fun hc => ?_)
  · have hc : (i : Int) < m := lt_of hc
    have hin : i < m := by omega
    refine LS.skip ?_
    repeat refine LS.seq ?_
    refine LS.block ?_
    repeat refine LS.seq ?_
    refine LS.region rfl ?_
    refine OS.pure rfl (fun _ => rfl) rfl ?_
    refine OS.pure rfl (fun _ => rfl) rfl ?_
    refine OS.at1 (j := i) (u := .int .i64 zs[i]) hvd (by rw [List.getElem?_map, List.getElem?_eq_getElem (by omega)]; rfl) rfl rfl rfl rfl rfl rfl (fun r0 o0 row0 cs0 m0 c0 g0 => ?_)
    refine ⟨_, rfl, ?_⟩
    refine OS.read rfl (e_loadm m0 c0 rfl rfl (part_one rfl g0)) rfl ?_
    have hK : un zs[i] % 512 < 512 := Nat.mod_lt _ (by omega)
    refine OS.pure rfl (e_convU rfl rfl rfl rfl) rfl ?_
    refine OS.pure rfl (e_rem (n := 512) rfl rfl rfl (by decide)) rfl ?_
    refine OS.pure rfl (e_conv rfl rfl rfl rfl (in_i64 (by omega) (by omega))) rfl ?_
    refine OS.pure rfl (fun _ => rfl) rfl ?_
    refine OS.nil ?_
    generalize un zs[i] % 512 = k at hK
    have hu8 := u8_of (i := i) (by omega)
    rcases Nat.lt_trichotomy i n with hin2 | hin2 | hin2
    · have hb1 : (!ileB (n : Int) (i : Int)) = true := by rw [ileB_eq]; simp; omega
      rw [St_le (by omega)]
      have ok1 : Dk.ok ⟨512, D, i, true, n - i, false⟩ := ok_of hF.2.1 (by decide) (by decide) (by omega) (by omega)
      repeat refine LS.seq ?_
      refine LS.region rfl ?_
      refine OS.pure rfl (fun _ => rfl) rfl ?_
      refine OS.pure rfl (fun _ => rfl) rfl ?_
      refine OS.pure rfl (fun _ => rfl) rfl ?_
      refine OS.pure rfl (e_add rfl rfl rfl (in_i64 (by omega) (by omega))) rfl ?_
      refine OS.pure rfl (e_is (e_conv rfl rfl rfl rfl (in_u8 (by omega) (by omega))) (congrArg (Value.int .u8) hu8)) rfl ?_
      refine OS.call noGo rfl (fun _ => rfl) ((full_ct (UInt8.ofNat (i + 1))).mono ?_)
      rintro v' L' ⟨ra, rfl, rfl⟩
      refine ⟨_, rfl, ?_⟩
      refine OS.sub (Sub.pulls [2, 2] rfl) ?_
      refine OS.call noGo rfl (fun _ => rfl) ((Write_ct ok1 rfl (fun h => show 0 < n - i by omega) k hK (SV.row (List.mem_cons_self ..) (by rw [byteCells_len, List.length_replicate]))).mono ?_)
      rintro v' L' ⟨rfl, rfl⟩
      refine ⟨_, rfl, ?_⟩
      refine OS.sub (Sub.drop 2 rfl) ?_
      refine OS.pure rfl (fun _ => rfl) rfl ?_
      refine OS.nil ?_
      repeat refine LS.seq ?_
      refine LS.region rfl ?_
      refine OS.pure rfl (fun _ => rfl) rfl ?_
      refine OS.pure rfl (fun _ => rfl) rfl ?_
      refine OS.pure rfl (fun _ => rfl) rfl ?_
      refine OS.pure rfl (fun _ => rfl) rfl ?_
      refine OS.pure rfl (e_is (fun _ => rfl) (congrArg Value.bool hb1)) rfl ?_
      refine OS.pure rfl (fun _ => rfl) rfl ?_
      refine OS.pure rfl (fun _ => rfl) rfl ?_
      refine OS.pure rfl (fun _ => rfl) rfl ?_
      refine OS.pure rfl (fun _ => rfl) rfl ?_
      refine OS.pure rfl (fun _ => rfl) rfl ?_
      refine OS.skip rfl rfl ?_
      refine OS.skip rfl rfl ?_
      refine OS.pure rfl (fun _ => rfl) rfl ?_
      refine OS.pure rfl (fun _ => rfl) rfl ?_
      refine OS.nil ?_
      refine LS.cond rfl (fun hc => by cases hc) (fun hc => ?_)
      refine LS.skip ?_
      repeat refine LS.seq ?_
      refine LS.region rfl ?_
      refine OS.pure rfl (fun _ => rfl) rfl ?_
      refine OS.pure rfl (fun _ => rfl) rfl ?_
      refine OS.nil ?_
      refine LS.cond rfl (fun hc => ?_) (fun hc => by cases hc)
      repeat refine LS.seq ?_
      refine LS.region rfl ?_
      refine OS.pure rfl (fun _ => rfl) rfl ?_
      refine OS.pure rfl (fun _ => rfl) rfl ?_
      refine OS.pure rfl (fun _ => rfl) rfl ?_
      refine OS.pure rfl (e_add rfl rfl rfl (in_i64 (by omega) (by omega))) rfl ?_
      refine OS.pure rfl (e_is (e_conv rfl rfl rfl rfl (in_u8 (by omega) (by omega))) (congrArg (Value.int .u8) hu8)) rfl ?_
      refine OS.pure rfl (e_conv rfl rfl rfl rfl (in_i64 (by omega) (by omega))) rfl ?_
      refine OS.pure rfl (e_index (j := k) (sz := 1) rfl rfl rfl rfl rfl hK) rfl ?_
      refine OS.write rfl (e_store 2 (n := 1) rfl rfl rfl rfl rfl rfl (wc_set hF.1 hK _) rfl) rfl ?_
      refine OS.nil ?_
      repeat refine LS.seq ?_
      refine LS.region rfl ?_
      refine OS.pure rfl (fun _ => rfl) rfl ?_
      refine OS.pure rfl (e_add rfl rfl rfl (in_i64 (by omega) (by omega))) rfl ?_
      refine OS.pure rfl (fun _ => rfl) rfl ?_
      refine OS.nil ?_
      exact ⟨m - (i + 1), by omega, i + 1, ws.set k _, _, rfl, by omega, hF.set hK (UInt8.ofNat (i + 1)), by rw [St_le (by omega)]; rfl, rfl⟩
    · have hz0 : n - i = 0 := by omega
      have hb1 : (!ileB (n : Int) (i : Int)) = false := by rw [ileB_eq]; simp; omega
      rw [St_le (by omega), hz0]
      repeat refine LS.seq ?_
      refine LS.region rfl ?_
      refine OS.pure rfl (fun _ => rfl) rfl ?_
      refine OS.pure rfl (fun _ => rfl) rfl ?_
      refine OS.pure rfl (fun _ => rfl) rfl ?_
      refine OS.pure rfl (e_add rfl rfl rfl (in_i64 (by omega) (by omega))) rfl ?_
      refine OS.pure rfl (e_is (e_conv rfl rfl rfl rfl (in_u8 (by omega) (by omega))) (congrArg (Value.int .u8) hu8)) rfl ?_
      refine OS.call noGo rfl (fun _ => rfl) ((full_ct (UInt8.ofNat (i + 1))).mono ?_)
      rintro v' L' ⟨ra, rfl, rfl⟩
      refine ⟨_, rfl, ?_⟩
      refine OS.sub (Sub.pulls [2, 2] rfl) ?_
      refine OS.call noGo rfl (fun _ => rfl) ((Write_cut (s := ⟨512, D, i, true, 0, false⟩) rfl rfl rfl k hK (SV.row (List.mem_cons_self ..) (by rw [byteCells_len, List.length_replicate]))).mono ?_)
      rintro v' L' ⟨rfl, rfl⟩
      refine ⟨_, rfl, ?_⟩
      refine OS.sub (Sub.drop 2 rfl) ?_
      refine OS.pure rfl (fun _ => rfl) rfl ?_
      refine OS.nil ?_
      repeat refine LS.seq ?_
      refine LS.region rfl ?_
      refine OS.pure rfl (fun _ => rfl) rfl ?_
      refine OS.pure rfl (fun _ => rfl) rfl ?_
      refine OS.pure rfl (fun _ => rfl) rfl ?_
      refine OS.pure rfl (fun _ => rfl) rfl ?_
      refine OS.pure rfl (e_is (fun _ => rfl) (congrArg Value.bool hb1)) rfl ?_
      refine OS.pure rfl (fun _ => rfl) rfl ?_
      refine OS.pure rfl (fun _ => rfl) rfl ?_
      refine OS.pure rfl (fun _ => rfl) rfl ?_
      refine OS.pure rfl (fun _ => rfl) rfl ?_
      refine OS.pure rfl (fun _ => rfl) rfl ?_
      refine OS.pure rfl (fun _ => rfl) rfl ?_
      refine OS.pure rfl (fun _ => rfl) rfl ?_
      refine OS.pure rfl (fun _ => rfl) rfl ?_
      refine OS.pure rfl (fun _ => rfl) rfl ?_
      refine OS.nil ?_
      refine LS.cond rfl (fun hc => by cases hc) (fun hc => ?_)
      refine LS.skip ?_
      repeat refine LS.seq ?_
      refine LS.region rfl ?_
      refine OS.pure rfl (fun _ => rfl) rfl ?_
      refine OS.pure rfl (fun _ => rfl) rfl ?_
      refine OS.nil ?_
      refine LS.cond rfl (fun hc => by cases hc) (fun hc => ?_)
      refine LS.skip ?_
      repeat refine LS.seq ?_
      refine LS.region rfl ?_
      refine OS.pure rfl (fun _ => rfl) rfl ?_
      refine OS.pure rfl (e_add rfl rfl rfl (in_i64 (by omega) (by omega))) rfl ?_
      refine OS.pure rfl (fun _ => rfl) rfl ?_
      refine OS.nil ?_
      exact ⟨m - (i + 1), by omega, i + 1, ws, D, rfl, by omega, hF, by rw [St_gt (by omega), hin2], rfl⟩
    · have hb1 : (!ileB (n : Int) (i : Int)) = false := by rw [ileB_eq]; simp; omega
      rw [St_gt (by omega)]
      repeat refine LS.seq ?_
      refine LS.region rfl ?_
      refine OS.pure rfl (fun _ => rfl) rfl ?_
      refine OS.pure rfl (fun _ => rfl) rfl ?_
      refine OS.pure rfl (fun _ => rfl) rfl ?_
      refine OS.pure rfl (e_add rfl rfl rfl (in_i64 (by omega) (by omega))) rfl ?_
      refine OS.pure rfl (e_is (e_conv rfl rfl rfl rfl (in_u8 (by omega) (by omega))) (congrArg (Value.int .u8) hu8)) rfl ?_
      refine OS.call noGo rfl (fun _ => rfl) ((full_ct (UInt8.ofNat (i + 1))).mono ?_)
      rintro v' L' ⟨ra, rfl, rfl⟩
      refine ⟨_, rfl, ?_⟩
      refine OS.sub (Sub.pulls [2, 2] rfl) ?_
      refine OS.call noGo rfl (fun _ => rfl) ((Write_dead (s := ⟨512, D, n, true, 0, true⟩) rfl _ _).mono ?_)
      rintro v' L' ⟨rfl, rfl⟩
      refine ⟨_, rfl, ?_⟩
      refine OS.sub (Sub.drop 2 rfl) ?_
      refine OS.pure rfl (fun _ => rfl) rfl ?_
      refine OS.nil ?_
      repeat refine LS.seq ?_
      refine LS.region rfl ?_
      refine OS.pure rfl (fun _ => rfl) rfl ?_
      refine OS.pure rfl (fun _ => rfl) rfl ?_
      refine OS.pure rfl (fun _ => rfl) rfl ?_
      refine OS.pure rfl (fun _ => rfl) rfl ?_
      refine OS.pure rfl (e_is (fun _ => rfl) (congrArg Value.bool hb1)) rfl ?_
      refine OS.pure rfl (fun _ => rfl) rfl ?_
      refine OS.pure rfl (fun _ => rfl) rfl ?_
      refine OS.pure rfl (fun _ => rfl) rfl ?_
      refine OS.pure rfl (fun _ => rfl) rfl ?_
      refine OS.pure rfl (fun _ => rfl) rfl ?_
      refine OS.pure rfl (fun _ => rfl) rfl ?_
      refine OS.pure rfl (fun _ => rfl) rfl ?_
      refine OS.pure rfl (fun _ => rfl) rfl ?_
      refine OS.pure rfl (fun _ => rfl) rfl ?_
      refine OS.nil ?_
      refine LS.cond rfl (fun hc => by cases hc) (fun hc => ?_)
      refine LS.skip ?_
      repeat refine LS.seq ?_
      refine LS.region rfl ?_
      refine OS.pure rfl (fun _ => rfl) rfl ?_
      refine OS.pure rfl (fun _ => rfl) rfl ?_
      refine OS.nil ?_
      refine LS.cond rfl (fun hc => by cases hc) (fun hc => ?_)
      refine LS.skip ?_
      repeat refine LS.seq ?_
      refine LS.region rfl ?_
      refine OS.pure rfl (fun _ => rfl) rfl ?_
      refine OS.pure rfl (e_add rfl rfl rfl (in_i64 (by omega) (by omega))) rfl ?_
      refine OS.pure rfl (fun _ => rfl) rfl ?_
      refine OS.nil ?_
      exact ⟨m - (i + 1), by omega, i + 1, ws, D, rfl, by omega, hF, by rw [St_gt (by omega)], rfl⟩
  · have hc : (m : Int) ≤ i := nlt_of hc
    have him : i = m := by omega
    subst him
    refine LS.exit ?_
    repeat refine LS.seq ?_
    refine LS.region rfl ?_
    refine OS.pure rfl (fun _ => rfl) rfl ?_
    refine OS.pure rfl (fun _ => rfl) rfl ?_
    refine OS.nil ?_
    by_cases hmn : i ≤ n
    · have ok1 : Dk.ok ⟨512, D, i, true, n - i, false⟩ := ok_of hF.2.1 (by decide) (by decide) (by omega) (by omega)
      have hb2 : (!ileB (i : Int) (n : Int)) = false := by rw [ileB_eq]; simp; omega
      rw [St_le (by omega)] 
      repeat refine LS.seq ?_
      refine LS.region rfl ?_
      refine OS.pure rfl (fun _ => rfl) rfl ?_
      refine OS.call noGo rfl (fun _ => rfl) ((Dead_ct).mono ?_)
      rintro v' L' ⟨rfl, rfl⟩
      refine ⟨_, rfl, ?_⟩
      refine OS.nil ?_
      refine LS.cond rfl (fun hc => by cases hc) (fun hc => ?_)
      refine LS.skip ?_
      repeat refine LS.seq ?_
      refine LS.region rfl ?_
      refine OS.pure rfl (fun _ => rfl) rfl ?_
      refine OS.call noGo rfl (fun _ => rfl) ((Dead_ct).mono ?_)
      rintro v' L' ⟨rfl, rfl⟩
      refine ⟨_, rfl, ?_⟩
      refine OS.pure rfl (fun _ => rfl) rfl ?_
      refine OS.pure rfl (e_len hv rfl rfl rfl rfl rfl) rfl ?_
      refine OS.pure rfl (fun _ => rfl) rfl ?_
      refine OS.pure rfl (e_is (fun _ => rfl) (congrArg Value.bool hb2)) rfl ?_
      refine OS.pure rfl (fun _ => rfl) rfl ?_
      refine OS.nil ?_
      refine LS.cond rfl (fun hc => by cases hc) (fun hc => ?_)
      refine LS.skip ?_
      repeat refine LS.seq ?_
      refine LS.region rfl ?_
      refine OS.pure rfl (fun _ => rfl) rfl ?_
      refine OS.nil ?_
      repeat refine LS.seq ?_
      refine LS.block ?_
      refine LS.loopJ [4, 8, 12, 15] (fun q a L' => ∃ j, q = 512 - j ∧ j ≤ 512 ∧ L' = dk rd rb ⟨512, D, i, true, n - i, false⟩ ((rw, .cells 3 (wc ws)) :: L) ∧
        a = [.chan none, .chan none, .chan none, .chan none, .bool false, .chan none, .chan none, .chan none, .slice (some ⟨rw, 0, none⟩) 512 512, .chan none, .chan none, .chan none, ptr rd, .chan none, .chan none, .int .i64 (j : Nat), .chan none, .chan none, .chan none, .chan none, .chan none, .chan none, .chan none, .chan none, .chan none, .chan none, .chan none, .chan none, .chan none, .chan none, .chan none, .chan none, .chan none, .chan none, .chan none, .chan none, .chan none, .chan none, .chan none, .chan none, .chan none, .chan none, .chan none, .chan none, .chan none, .chan none, .chan none, .chan none, .chan none, .chan none, .chan none, .chan none, .chan none, .chan none, .chan none, .chan none, .chan none, .chan none, .chan none, .chan none, .chan none, .chan none, .chan none, .chan none, .chan none, .chan none, .chan none, .chan none, .chan none, .chan none, .chan none, .chan none, .chan none, .chan none, .chan none, .chan none, .chan none, .chan none, .chan none, .chan none, .chan none, .chan none, .chan none, .chan none, .chan none, .chan none, .chan none, .chan none, .chan none, .chan none, .chan none, .chan none, .chan none, .chan none, .chan none, .chan none, .chan none, .chan none, .chan none, .chan none, .chan none, .chan none, .chan none, .chan none, .chan none, .chan none, .chan none, .chan none, .chan none, .chan none, .chan none, .chan none, .chan none, .chan none, .chan none, .chan none, .chan none, .chan none, .chan none, .chan none, .chan none, .chan none, .chan none, .chan none, .chan none, .chan none, .chan none, .chan none]) (n := 512) rfl ⟨0, rfl, by omega, rfl, rfl⟩ ?_
      rintro q a L' ⟨j, rfl, hj, rfl, rfl⟩
      repeat refine LS.seq ?_
      refine LS.region rfl ?_
      refine OS.pure rfl (fun _ => rfl) rfl ?_
      refine OS.pure rfl (fun _ => rfl) rfl ?_
      refine OS.nil ?_
      repeat refine LS.seq ?_
      refine LS.cond rfl (fun hc => ?_) (fun hc => ?_)
      · have hc : (j : Int) < (512 : Nat) := lt_of hc
        have hj2 : j < 512 := by omega
        obtain ⟨c, hcw⟩ : ∃ c, ws[j]? = some c := ⟨_, List.getElem?_eq_getElem (by rw [hF.1]; exact hj2)⟩
        have hbj := hF.2.2 j c hcw
        refine LS.skip ?_
        repeat refine LS.seq ?_
        refine LS.block ?_
        repeat refine LS.seq ?_
        refine LS.region rfl ?_
        refine OS.pure rfl (fun _ => rfl) rfl ?_
        refine OS.pure rfl (fun _ => rfl) rfl ?_
        refine OS.call noGo rfl (fun _ => rfl) ((Read_ct ok1 rfl j hj2).mono ?_)
        rintro v' L' ⟨r1, rfl, rfl⟩
        refine ⟨_, rfl, ?_⟩
        refine OS.pure rfl (fun _ => rfl) rfl ?_
        refine OS.pure rfl (fun _ => rfl) rfl ?_
        refine OS.pure rfl (fun _ => rfl) rfl ?_
        refine OS.pure rfl (fun _ => rfl) rfl ?_
        refine OS.pure rfl (fun _ => rfl) rfl ?_
        refine OS.nil ?_
        repeat refine LS.seq ?_
        refine LS.drawn noGo mixed [(0, false), (1, false), (2, false), (3, false), (4, false), (5, false), (6, false), (7, false), (8, false), (9, false), (10, true), (11, false), (12, false), (13, false)] rfl rfl (by kernel_rfl) ?_
        refine ODS.pure rfl rfl (fun _ => rfl) rfl ?_
        refine ODS.pure rfl rfl (fun _ => rfl) rfl ?_
        refine ODS.pure rfl rfl (fun _ => rfl) rfl ?_
        refine ODS.pure rfl rfl (fun _ => rfl) rfl ?_
        refine ODS.read rfl rfl (e_textSV (n := 256) (bs := blk D j) (SV.row (e := 92) (r := r1) (by simp) (by rw [byteCells_len, hbj, List.length_replicate])) rfl rfl rfl rfl rfl) rfl ?_
        refine ODS.pure rfl rfl (fun _ => rfl) rfl ?_
        refine ODS.pure rfl rfl (fun _ => rfl) rfl ?_
        refine ODS.pure rfl rfl (e_index (j := j) (sz := 1) rfl rfl rfl rfl rfl hj2) rfl ?_
        refine ODS.read rfl rfl (e_loadm (row := .cells 3 (wc ws)) (r := rw) (by simp) rfl rfl rfl (part_one rfl (u8_get hcw))) rfl ?_
        refine ODS.pure rfl rfl (e_conv rfl rfl rfl rfl (in_u8 (by omega) (by have := c.toNat_lt; omega))) rfl ?_
        refine ODS.call rfl rfl (fun _ => rfl) ((full_ct c).mono ?_)
        rintro v' L' ⟨r3, rfl, rfl⟩
        refine ⟨_, rfl, Keep.gone rfl (Keep.cons rfl (e_textSV (n := 256) (bs := blk D j) (SV.row (e := 92) (r := r1) (by simp) (by rw [byteCells_len, hbj, List.length_replicate])) rfl rfl rfl rfl rfl) Keep.nil), ?_⟩
        refine ODS.read rfl rfl (e_textSV (n := 256) (bs := List.replicate 256 c) (SV.row (e := 5) (r := r3) (by simp) (by rw [byteCells_len, List.length_replicate])) rfl rfl rfl rfl rfl) rfl ?_
        refine ODS.pure rfl rfl (e_is (fun _ => rfl) (congrArg Value.bool (show (!bytesEq (blk D j) (List.replicate 256 c)) = false by rw [bytesEq_eq, hbj]; simp))) rfl ?_
        refine ODS.pure rfl rfl (fun _ => rfl) rfl ?_
        refine ODS.nil ?_
        refine LS.cond rfl (fun hc => by cases hc) (fun hc => ?_)
        refine LS.skip ?_
        repeat refine LS.seq ?_
        refine LS.region rfl ?_
        refine OS.sub (Sub.drop 0 rfl) ?_
        refine OS.sub (Sub.drop 0 rfl) ?_
        refine OS.pure rfl (fun _ => rfl) rfl ?_
        refine OS.pure rfl (e_add rfl rfl rfl (in_i64 (by omega) (by omega))) rfl ?_
        refine OS.pure rfl (fun _ => rfl) rfl ?_
        refine OS.nil ?_
        exact ⟨512 - (j + 1), by omega, j + 1, rfl, by omega, rfl, rfl⟩
      · have hc : ((512 : Nat) : Int) ≤ j := nlt_of hc
        have hj3 : j = 512 := by omega
        subst hj3
        refine LS.exit ?_
        repeat refine LS.seq ?_
        refine LS.region rfl ?_
        refine OS.pure rfl (fun _ => rfl) rfl ?_
        refine OS.nil ?_
        refine LS.ret ⟨_, fun _ _ => rfl, ?_⟩
        rfl
    · have hb2 : (!ileB (i : Int) (n : Int)) = true := by rw [ileB_eq]; simp; omega
      have ok1 : Dk.ok ⟨512, D, n, true, 0, true⟩ := ok_of hF.2.1 (by decide) (by decide) (by omega) (by omega)
      have ok2 : Dk.ok ⟨512, D, 0, false, 0, false⟩ := ok_of hF.2.1 (by decide) (by decide) (by omega) (by omega)
      rw [St_gt (by omega)]
      repeat refine LS.seq ?_
      refine LS.region rfl ?_
      refine OS.pure rfl (fun _ => rfl) rfl ?_
      refine OS.call noGo rfl (fun _ => rfl) ((Dead_ct).mono ?_)
      rintro v' L' ⟨rfl, rfl⟩
      refine ⟨_, rfl, ?_⟩
      refine OS.nil ?_
      refine LS.cond rfl (fun hc => ?_) (fun hc => by cases hc)
      repeat refine LS.seq ?_
      refine LS.region rfl ?_
      refine OS.pure rfl (fun _ => rfl) rfl ?_
      refine OS.call noGo rfl (fun _ => rfl) ((Reopen_ct ok1 rfl).mono ?_)
      rintro v' L' ⟨rd', rb', rfl, rfl⟩
      refine ⟨_, rfl, ?_⟩
      refine OS.pure rfl (fun _ => rfl) rfl ?_
      refine OS.pure rfl (fun _ => rfl) rfl ?_
      refine OS.pure rfl (fun _ => rfl) rfl ?_
      refine OS.pure rfl (fun _ => rfl) rfl ?_
      refine OS.pure rfl (fun _ => rfl) rfl ?_
      refine OS.nil ?_
      repeat refine LS.seq ?_
      refine LS.region rfl ?_
      refine OS.pure rfl (fun _ => rfl) rfl ?_
      refine OS.pure rfl (fun _ => rfl) rfl ?_
      refine OS.nil ?_
      refine LS.cond rfl (fun hc => by cases hc) (fun hc => ?_)
      refine LS.skip ?_
      repeat refine LS.seq ?_
      refine LS.region rfl ?_
      refine OS.pure rfl (fun _ => rfl) rfl ?_
      refine OS.pure rfl (fun _ => rfl) rfl ?_
      refine OS.nil ?_
      repeat refine LS.seq ?_
      refine LS.region rfl ?_
      refine OS.sub (Sub.pulls [3, 3] rfl) ?_
      refine OS.pure rfl (fun _ => rfl) rfl ?_
      refine OS.call noGo rfl (fun _ => rfl) ((Dead_ct).mono ?_)
      rintro v' L' ⟨rfl, rfl⟩
      refine ⟨_, rfl, ?_⟩
      refine OS.pure rfl (fun _ => rfl) rfl ?_
      refine OS.pure rfl (e_len hv rfl rfl rfl rfl rfl) rfl ?_
      refine OS.pure rfl (fun _ => rfl) rfl ?_
      refine OS.pure rfl (e_is (fun _ => rfl) (congrArg Value.bool hb2)) rfl ?_
      refine OS.pure rfl (fun _ => rfl) rfl ?_
      refine OS.sub (Sub.pulls [3, 3] rfl) ?_
      refine OS.nil ?_
      refine LS.cond rfl (fun hc => by cases hc) (fun hc => ?_)
      refine LS.skip ?_
      repeat refine LS.seq ?_
      refine LS.region rfl ?_
      refine OS.pure rfl (fun _ => rfl) rfl ?_
      refine OS.nil ?_
      repeat refine LS.seq ?_
      refine LS.block ?_
      refine LS.loopJ [4, 8, 12, 15] (fun q a L' => ∃ j, q = 512 - j ∧ j ≤ 512 ∧ L' = dk rd' rb' ⟨512, D, 0, false, 0, false⟩ (dk rd rb ⟨512, D, n, true, 0, true⟩ ((rw, .cells 3 (wc ws)) :: L)) ∧
        a = [.chan none, .chan none, .chan none, .chan none, .bool false, .chan none, .chan none, .chan none, .slice (some ⟨rw, 0, none⟩) 512 512, .chan none, .chan none, .chan none, ptr rd', .chan none, .chan none, .int .i64 (j : Nat), .chan none, .chan none, .chan none, .chan none, .chan none, .chan none, .chan none, .chan none, .chan none, .chan none, .chan none, .chan none, .chan none, .chan none, .chan none, .chan none, .chan none, .chan none, .chan none, .chan none, .chan none, .chan none, .chan none, .chan none, .chan none, .chan none, .chan none, .chan none, .chan none, .chan none, .chan none, .chan none, .chan none, .chan none, .chan none, .chan none, .chan none, .chan none, .chan none, .chan none, .chan none, .chan none, .chan none, .chan none, .chan none, .chan none, .chan none, .chan none, .chan none, .chan none, .chan none, .chan none, .chan none, .chan none, .chan none, .chan none, .chan none, .chan none, .chan none, .chan none, .chan none, .chan none, .chan none, .chan none, .chan none, .chan none, .chan none, .chan none, .chan none, .chan none, .chan none, .chan none, .chan none, .chan none, .chan none, .chan none, .chan none, .chan none, .chan none, .chan none, .chan none, .chan none, .chan none, .chan none, .chan none, .chan none, .chan none, .chan none, .chan none, .chan none, .chan none, .chan none, .chan none, .chan none, .chan none, .chan none, .chan none, .chan none, .chan none, .chan none, .chan none, .chan none, .chan none, .chan none, .chan none, .chan none, .chan none, .chan none, .chan none, .chan none, .chan none, .chan none]) (n := 512) rfl ⟨0, rfl, by omega, rfl, rfl⟩ ?_
      rintro q a L' ⟨j, rfl, hj, rfl, rfl⟩
      repeat refine LS.seq ?_
      refine LS.region rfl ?_
      refine OS.pure rfl (fun _ => rfl) rfl ?_
      refine OS.pure rfl (fun _ => rfl) rfl ?_
      refine OS.nil ?_
      repeat refine LS.seq ?_
      refine LS.cond rfl (fun hc => ?_) (fun hc => ?_)
      · have hc : (j : Int) < (512 : Nat) := lt_of hc
        have hj2 : j < 512 := by omega
        obtain ⟨c, hcw⟩ : ∃ c, ws[j]? = some c := ⟨_, List.getElem?_eq_getElem (by rw [hF.1]; exact hj2)⟩
        have hbj := hF.2.2 j c hcw
        refine LS.skip ?_
        repeat refine LS.seq ?_
        refine LS.block ?_
        repeat refine LS.seq ?_
        refine LS.region rfl ?_
        refine OS.pure rfl (fun _ => rfl) rfl ?_
        refine OS.pure rfl (fun _ => rfl) rfl ?_
        refine OS.call noGo rfl (fun _ => rfl) ((Read_ct ok2 rfl j hj2).mono ?_)
        rintro v' L' ⟨r1, rfl, rfl⟩
        refine ⟨_, rfl, ?_⟩
        refine OS.pure rfl (fun _ => rfl) rfl ?_
        refine OS.pure rfl (fun _ => rfl) rfl ?_
        refine OS.pure rfl (fun _ => rfl) rfl ?_
        refine OS.pure rfl (fun _ => rfl) rfl ?_
        refine OS.pure rfl (fun _ => rfl) rfl ?_
        refine OS.nil ?_
        repeat refine LS.seq ?_
        refine LS.drawn noGo mixed [(0, false), (1, false), (2, false), (3, false), (4, false), (5, false), (6, false), (7, false), (8, false), (9, false), (10, true), (11, false), (12, false), (13, false)] rfl rfl (by kernel_rfl) ?_
        refine ODS.pure rfl rfl (fun _ => rfl) rfl ?_
        refine ODS.pure rfl rfl (fun _ => rfl) rfl ?_
        refine ODS.pure rfl rfl (fun _ => rfl) rfl ?_
        refine ODS.pure rfl rfl (fun _ => rfl) rfl ?_
        refine ODS.read rfl rfl (e_textSV (n := 256) (bs := blk D j) (SV.row (e := 92) (r := r1) (by simp) (by rw [byteCells_len, hbj, List.length_replicate])) rfl rfl rfl rfl rfl) rfl ?_
        refine ODS.pure rfl rfl (fun _ => rfl) rfl ?_
        refine ODS.pure rfl rfl (fun _ => rfl) rfl ?_
        refine ODS.pure rfl rfl (e_index (j := j) (sz := 1) rfl rfl rfl rfl rfl hj2) rfl ?_
        refine ODS.read rfl rfl (e_loadm (row := .cells 3 (wc ws)) (r := rw) (by simp) rfl rfl rfl (part_one rfl (u8_get hcw))) rfl ?_
        refine ODS.pure rfl rfl (e_conv rfl rfl rfl rfl (in_u8 (by omega) (by have := c.toNat_lt; omega))) rfl ?_
        refine ODS.call rfl rfl (fun _ => rfl) ((full_ct c).mono ?_)
        rintro v' L' ⟨r3, rfl, rfl⟩
        refine ⟨_, rfl, Keep.gone rfl (Keep.cons rfl (e_textSV (n := 256) (bs := blk D j) (SV.row (e := 92) (r := r1) (by simp) (by rw [byteCells_len, hbj, List.length_replicate])) rfl rfl rfl rfl rfl) Keep.nil), ?_⟩
        refine ODS.read rfl rfl (e_textSV (n := 256) (bs := List.replicate 256 c) (SV.row (e := 5) (r := r3) (by simp) (by rw [byteCells_len, List.length_replicate])) rfl rfl rfl rfl rfl) rfl ?_
        refine ODS.pure rfl rfl (e_is (fun _ => rfl) (congrArg Value.bool (show (!bytesEq (blk D j) (List.replicate 256 c)) = false by rw [bytesEq_eq, hbj]; simp))) rfl ?_
        refine ODS.pure rfl rfl (fun _ => rfl) rfl ?_
        refine ODS.nil ?_
        refine LS.cond rfl (fun hc => by cases hc) (fun hc => ?_)
        refine LS.skip ?_
        repeat refine LS.seq ?_
        refine LS.region rfl ?_
        refine OS.sub (Sub.drop 0 rfl) ?_
        refine OS.sub (Sub.drop 0 rfl) ?_
        refine OS.pure rfl (fun _ => rfl) rfl ?_
        refine OS.pure rfl (e_add rfl rfl rfl (in_i64 (by omega) (by omega))) rfl ?_
        refine OS.pure rfl (fun _ => rfl) rfl ?_
        refine OS.nil ?_
        exact ⟨512 - (j + 1), by omega, j + 1, rfl, by omega, rfl, rfl⟩
      · have hc : ((512 : Nat) : Int) ≤ j := nlt_of hc
        have hj3 : j = 512 := by omega
        subst hj3
        refine LS.exit ?_
        repeat refine LS.seq ?_
        refine LS.region rfl ?_
        refine OS.pure rfl (fun _ => rfl) rfl ?_
        refine OS.nil ?_
        refine LS.ret ⟨_, fun _ _ => rfl, ?_⟩
        rfl
end Go.Proofs.Ytnfenpkkhkdkhaa
