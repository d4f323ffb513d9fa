/- Layer 1: what the program's readers take off. -/
import Derived.Test.YtnfenpkkhkdkhaaLd
namespace Go.Proofs.Ytnfenpkkhkdkhaa
open Go.Am
set_option linter.unusedVariables false
set_option maxRecDepth 20000

theorem e_shl {P : Program} {a : Slots} {o : Oper} {t z : TypeId} {x y : Operand} {k k' : IntKind} {m s : Nat} (ho : o.op = .binOp .shl t x y z) (hx : aev a x = some (.int k (m : Int))) (hy : aev a y = some (.int k' (s : Int))) (hs : s ≤ k.bits) (hi : inK k ((m * 2 ^ s : Nat) : Int) = true) : ∀ h, opB P a o h = some (.val (.int k ((m * 2 ^ s : Nat) : Int)) h) := by
  intro h
  have h0 : ileB 0 (s : Int) = true := ileB_iff.2 (by omega)
  have h1 : (m : Int) * ((2 ^ (min s k.bits) : Nat) : Int) = ((m * 2 ^ s : Nat) : Int) := by rw [Nat.min_eq_left hs]; simp
  simp only [opB, ho, hx, hy, eqOk, binB, h0, Int.toNat_natCast, h1, wrap_in hi, ret]
theorem e_or {P : Program} {a : Slots} {o : Oper} {t z : TypeId} {x y : Operand} {m n : Nat} (ho : o.op = .binOp .or t x y z) (hx : aev a x = some (.int .u64 (m : Int))) (hy : aev a y = some (.int .u64 (n : Int))) (hm : m < 18446744073709551616) (hn : n < 18446744073709551616) : ∀ h, opB P a o h = some (.val (.int .u64 ((m ||| n : Nat) : Int)) h) := by
  intro h
  have hb : ∀ m : Nat, m < 18446744073709551616 → bitsB .u64 (m : Int) = m := fun m hm => by
    unfold bitsB
    have : (ileB 0 (m : Int) && ileB (m : Int) (mostB .u64)) = true := by
      rw [Bool.and_eq_true, ileB_iff, ileB_iff]; exact ⟨by omega, by simp [mostB]; omega⟩
    rw [this]; simp
  have hor : m ||| n < 18446744073709551616 := Nat.or_lt_two_pow (n := 64) hm hn
  have hi : inK .u64 ((m ||| n : Nat) : Int) = true := in_u64 (by omega) (by omega)
  simp only [opB, ho, hx, hy, eqOk, binB, if_true, hb m hm, hb n hn, wrap_in hi, ret]

theorem digit_le {i c : Nat} (hi : i ≤ 9) (h9 : i = 9 → c ≤ 1) : c % 128 * 128 ^ i ≤ 9223372036854775808 := by
  by_cases h : i = 9
  · subst h
    have := h9 rfl
    have h1 : c % 128 ≤ 1 := by omega
    have e : (128 : Nat) ^ 9 = 9223372036854775808 := pow9
    rw [e]
    calc c % 128 * 9223372036854775808 ≤ 1 * 9223372036854775808 := Nat.mul_le_mul_right _ h1
      _ = _ := by omega
  · have h8 : 128 ^ i ≤ 128 ^ 8 := Nat.pow_le_pow_right (by omega) (by omega)
    have e : (128 : Nat) ^ 8 = 72057594037927936 := by decide
    rw [e] at h8
    have : c % 128 * 128 ^ i ≤ 127 * 72057594037927936 := Nat.mul_le_mul (by omega) h8
    omega
theorem or_digit {u d i : Nat} (h : u < 128 ^ i) : (u ||| d * 2 ^ (7 * i)) = u + d * 128 ^ i := by
  have e : (2 : Nat) ^ (7 * i) = 128 ^ i := by rw [Nat.pow_mul]
  rw [← e] at h ⊢
  rw [Nat.or_comm, Nat.mul_comm, ← Nat.two_pow_add_eq_or_of_lt h]
  omega

/-- Bytes in a row of the machine's own, which may be read and cut. -/
def OV (L : RL) (v : Value) (bs : List UInt8) : Prop := (v = .slice none 0 0 ∧ bs = []) ∨ ∃ r off C, v = .slice (some ⟨r, off, none⟩) bs.length openCap ∧ (r, .cells 5 C) ∈ L ∧ cut C off bs.length = some (byteCells bs)
theorem OV.sv {L : RL} {v : Value} {bs : List UInt8} (h : OV L v bs) : SV 1 L v bs.length (byteCells bs) := by
  rcases h with ⟨rfl, rfl⟩ | ⟨r, off, C, rfl, hm, hc⟩
  · exact .inl ⟨rfl, rfl, rfl⟩
  · exact .inr ⟨r, off, openCap, _, C, rfl, hm, rfl, by rw [Nat.mul_one]; exact hc⟩
theorem OV.mono {L L' : RL} {v : Value} {bs : List UInt8} (h : OV L v bs) (hm : ∀ p, p ∈ L → p ∈ L') : OV L' v bs := by
  rcases h with h | ⟨r, off, C, h1, h2, h3⟩
  · exact .inl h
  · exact .inr ⟨r, off, C, h1, hm _ h2, h3⟩
theorem OV.cons {L : RL} {x : Nat × ARow} {v : Value} {bs : List UInt8} (h : OV L v bs) : OV (x :: L) v bs := h.mono fun _ hp => List.mem_cons_of_mem _ hp
theorem OS.cutB {P : Program} {ops rest : List Oper} {o : Oper} {a : Slots} {L : RL} {K : Slots → RL → Prop} {t : TypeId} {x : Operand} {lo hi : Option Operand} {lo' hi' : Option Value} {v : Value} {l u : Nat} {bs : List UInt8} (hs : OV L v bs) (hw : wantedB ops o a = true) (ho : o.op = .slice t x lo hi none) (hx : aev a x = some v)
    (hlo : optEv a lo = some lo') (hhi : optEv a hi = some hi') (bl : boundB lo' 0 = some l) (bu : boundB hi' bs.length = some u) (ht : P.underlying t = some (.slice 5)) (hz : sizeB P 5 = some 1) (hu : u ≤ bs.length) (hl : l ≤ u)
    (hk : ∀ v', OV L v' ((bs.drop l).take (u - l)) → ∃ a₁, putAt a o.dst v' = some a₁ ∧ OS P ops rest a₁ L K) : OS P ops (o :: rest) a L K := by
  have hlen : ((bs.drop l).take (u - l)).length = u - l := by simp; omega
  rcases hs with ⟨rfl, rfl⟩ | ⟨r, off, C, rfl, hm, hc⟩
  · have hu0 : u = 0 := by simpa using hu
    subst hu0
    have hl0 : l = 0 := by omega
    subst hl0
    obtain ⟨a₁, ep, k⟩ := hk (.slice none 0 0) (.inl ⟨rfl, by simp⟩)
    refine OS.pure hw (fun h => ?_) ep k
    have hm' : optEv a none = some none := rfl
    have hcb : Nat.beq 0 openCap = false := beq_false (by decide)
    have h1 : Nat.ble 0 (farB 0 0) = true := rfl
    have h2 : Nat.ble 0 0 = true := rfl
    have h3 : rowOk h 5 none 0 = true := by unfold rowOk; rw [hcb]; rfl
    have bu' : boundB hi' 0 = some 0 := bu
    simp only [opB, ho, hx, hlo, hhi, hm', sliceB, ht, bu', bl, hz, h1, h2, h3, Bool.true_and, moved, hcb, ret]
  · have hcut : cut C (off + l * 1) (u - l) = some (byteCells ((bs.drop l).take (u - l))) := by
      rw [Nat.mul_one]
      exact cut_cut hc (by rw [cut_bytes (by omega)])
    obtain ⟨a₁, ep, k⟩ := hk (.slice (some ⟨r, off + l * 1, none⟩) (u - l) openCap) (.inr ⟨r, _, C, by rw [hlen], hm, by rw [hlen]; exact hcut⟩)
    obtain ⟨i, hi⟩ := List.mem_iff_getElem?.1 hm
    exact OS.read hw (e_slice i ho hx hlo hhi bl bu ht hz hu hl hi) ep k

theorem e_min {P : Program} {a : Slots} {o : Oper} {c : Call} {k : IntKind} {x y : Int} (ho : o.op = .call c) (hc : c.callee = .builtin .min) (ha : evs a c.args.toList = some [.int k x, .int k y]) : ∀ h, opB P a o h = some (.val (.int k (min x y)) h) := by
  intro h
  by_cases hxy : x ≤ y
  · have : ileB x y = true := ileB_iff.2 hxy
    simp only [opB, ho, ha, callOpB, hc, minB, if_true, this, ret]
    rw [show min x y = x by omega]
  · have : ileB x y = false := by rw [ileB_eq]; simpa using hxy
    simp only [opB, ho, ha, callOpB, hc, minB, if_true, this, ret]
    rw [show min x y = y by omega]

theorem groupsAt_ct {L : RL} {b : Value} {bs : List UInt8} {n : Nat} (hb : SV 1 L b n (byteCells bs)) (hn : n ≤ 9223372036854775807) :
    CS Try.prog 87 [b] L fun v L' => v = .tuple #[.int .u64 ((gat bs).1 : Nat), .int .i64 ((gat bs).2 : Nat)] ∧ L' = L := by
  have hl : bs.length = n := by have := hb.len; simpa [byteCells] using this
  refine CS.mk (fn := Try.f87) rfl rfl rfl rfl ?_
  repeat refine LS.seq ?_
  refine LS.region rfl ?_
  refine OS.pure rfl (fun _ => rfl) rfl ?_
  refine OS.pure rfl (fun _ => rfl) rfl ?_
  refine OS.nil ?_
  repeat refine LS.seq ?_
  refine LS.region rfl ?_
  refine OS.pure rfl (fun _ => rfl) rfl ?_
  refine OS.nil ?_
  repeat refine LS.seq ?_
  refine LS.region rfl ?_
  refine OS.pure rfl (fun _ => rfl) rfl ?_
  refine OS.pure rfl (e_len hb rfl rfl rfl rfl rfl) rfl ?_
  refine OS.pure rfl (fun _ => rfl) rfl ?_
  refine OS.nil ?_
  repeat refine LS.seq ?_
  refine LS.block ?_
  refine LS.loopJ [4, 7, 8, 9] (fun q a L' => ∃ j u, q = n - j ∧ j ≤ n ∧ j ≤ 9 ∧ u < 128 ^ j ∧ gGo j u (bs.drop j) = gat bs ∧ L' = L ∧ a = [.chan none, .chan none, .chan none, .chan none, .int .u64 (u : Nat), .chan none, .chan none, b, .int .i64 (n : Nat), .int .i64 (j : Nat), .chan none, .chan none, .chan none, .chan none, .chan none, .chan none, .chan none, .chan none, .chan none, .chan none, .chan none, .chan none, .chan none, .chan none, .chan none, .chan none, .chan none, .chan none, .chan none, .chan none, .chan none, .chan none, .chan none, .chan none, .chan none, .chan none, .chan none, .chan none, .chan none, .chan none]) (n := n) rfl ⟨0, 0, rfl, by omega, by omega, by simp, rfl, rfl, rfl⟩ ?_
  rintro q a L' ⟨j, u, rfl, hj, hj9, hu, hg, rfl, rfl⟩
  have hu9 : u < 9223372036854775808 := by
    have : 128 ^ j ≤ 128 ^ 9 := Nat.pow_le_pow_right (by omega) hj9
    rw [pow9] at this; omega
  repeat refine LS.seq ?_
  refine LS.region rfl ?_
  refine OS.pure rfl (fun _ => rfl) rfl ?_
  refine OS.nil ?_
  repeat refine LS.seq ?_
  refine LS.cond rfl (fun hc => ?_) (fun hc => ?_)
  · have hc := lt_of hc
    have hjn : j < bs.length := by omega
    have hcb : bs[j].toNat < 256 := bs[j].toNat_lt
    have hd : bs.drop j = bs[j] :: bs.drop (j + 1) := List.drop_eq_getElem_cons hjn
    rw [hd] at hg
    unfold gGo at hg
    refine LS.skip ?_
    repeat refine LS.seq ?_
    refine LS.block ?_
    repeat refine LS.seq ?_
    refine LS.region rfl ?_
    refine OS.pure rfl (fun _ => rfl) rfl ?_
    refine OS.at1 (j := j) hb (byteCells_get (List.getElem?_eq_getElem hjn)) rfl rfl rfl rfl rfl rfl (fun r0 o0 row0 cs0 m0 c0 g0 => ?_)
    refine ⟨_, rfl, ?_⟩
    refine OS.read rfl (e_loadm m0 c0 rfl rfl (part_one rfl g0)) rfl ?_
    refine OS.pure rfl (fun _ => rfl) rfl ?_
    refine OS.pure rfl (fun _ => rfl) rfl ?_
    refine OS.nil ?_
    by_cases h9 : j = 9 ∧ 1 < bs[j].toNat
    · rw [if_pos h9] at hg
      have hb1 : ieqB (j : Int) 9 = true := by rw [ieqB_eq]; simp; omega
      have hb2 : (!ileB (bs[j].toNat : Int) 1) = true := by rw [ileB_eq]; simp; omega
      repeat refine LS.seq ?_
      refine LS.region rfl ?_
      refine OS.pure rfl (fun _ => rfl) rfl ?_
      refine OS.pure rfl (e_is (fun _ => rfl) (congrArg Value.bool hb1)) rfl ?_
      refine OS.pure rfl (fun _ => rfl) rfl ?_
      refine OS.pure rfl (fun _ => rfl) rfl ?_
      refine OS.pure rfl (e_is (fun _ => rfl) (congrArg Value.bool hb2)) rfl ?_
      refine OS.pure rfl (fun _ => rfl) rfl ?_
      refine OS.nil ?_
      refine LS.cond rfl (fun hc => ?_) (fun hc => by cases hc)
      repeat refine LS.seq ?_
      refine LS.region rfl ?_
      refine OS.pure rfl (fun _ => rfl) rfl ?_
      refine OS.pure rfl (fun _ => rfl) rfl ?_
      refine OS.nil ?_
      refine LS.ret ⟨_, fun _ _ => rfl, ?_⟩
      rw [← hg]; exact ⟨rfl, rfl⟩
    rw [if_neg h9] at hg
    have hdig : bs[j].toNat % 128 * 128 ^ j ≤ 9223372036854775808 := digit_le hj9 (fun h => by omega)
    have he : (2 : Nat) ^ (7 * j) = 128 ^ j := by rw [Nat.pow_mul]
    have hdig2 : bs[j].toNat % 128 * 2 ^ (7 * j) ≤ 9223372036854775808 := by rw [he]; exact hdig
    refine LS.seq ?_
    refine LS.mid [4, 5, 6, 7, 8, 9] (fun a L2 => L2 = L' ∧ a = [.chan none, .chan none, .chan none, .chan none, .int .u64 (u : Nat), .int .i64 (j : Nat), .int .u8 (bs[j].toNat : Nat), b, .int .i64 (n : Nat), .int .i64 (j : Nat), .chan none, .chan none, .chan none, .chan none, .chan none, .chan none, .chan none, .chan none, .chan none, .chan none, .chan none, .chan none, .chan none, .chan none, .chan none, .chan none, .chan none, .chan none, .chan none, .chan none, .chan none, .chan none, .chan none, .chan none, .chan none, .chan none, .chan none, .chan none, .chan none, .chan none]) ?_ ?_
    · by_cases h9' : j = 9
      · have hb1 : ieqB (j : Int) 9 = true := by rw [ieqB_eq]; simp; omega
        have hb2 : (!ileB (bs[j].toNat : Int) 1) = false := by rw [ileB_eq]; simp; omega
        repeat refine LS.seq ?_
        refine LS.region rfl ?_
        refine OS.pure rfl (fun _ => rfl) rfl ?_
        refine OS.pure rfl (e_is (fun _ => rfl) (congrArg Value.bool hb1)) rfl ?_
        refine OS.pure rfl (fun _ => rfl) rfl ?_
        refine OS.pure rfl (fun _ => rfl) rfl ?_
        refine OS.pure rfl (e_is (fun _ => rfl) (congrArg Value.bool hb2)) rfl ?_
        refine OS.pure rfl (fun _ => rfl) rfl ?_
        refine OS.nil ?_
        refine LS.cond rfl (fun hc => by cases hc) (fun hc => ?_)
        refine LS.skip ?_
        exact ⟨rfl, rfl⟩
      · have hb1 : ieqB (j : Int) 9 = false := by rw [ieqB_eq]; simp; omega
        repeat refine LS.seq ?_
        refine LS.region rfl ?_
        refine OS.pure rfl (fun _ => rfl) rfl ?_
        refine OS.pure rfl (e_is (fun _ => rfl) (congrArg Value.bool hb1)) rfl ?_
        refine OS.pure rfl (fun _ => rfl) rfl ?_
        refine OS.skip rfl rfl ?_
        refine OS.skip rfl rfl ?_
        refine OS.pure rfl (fun _ => rfl) rfl ?_
        refine OS.nil ?_
        refine LS.cond rfl (fun hc => by cases hc) (fun hc => ?_)
        refine LS.skip ?_
        exact ⟨rfl, rfl⟩
    rintro a L' ⟨rfl, rfl⟩
    have hor : (u ||| bs[j].toNat % 128 * 2 ^ (7 * j)) = u + bs[j].toNat % 128 * 128 ^ j := or_digit hu
    repeat refine LS.seq ?_
    refine LS.region rfl ?_
    refine OS.pure rfl (fun _ => rfl) rfl ?_
    refine OS.pure rfl (fun _ => rfl) rfl ?_
    refine OS.pure rfl (e_rem (n := 128) rfl rfl rfl (by decide)) rfl ?_
    refine OS.pure rfl (e_conv rfl rfl rfl rfl (in_u64 (by omega) (by omega))) rfl ?_
    refine OS.pure rfl (fun _ => rfl) rfl ?_
    refine OS.pure rfl (e_is (e_mul (m := 7) (n := j) rfl rfl rfl (in_i64 (by omega) (by omega))) (congrArg (Value.int .i64) (show (7 : Int) * (j : Int) = ((7 * j : Nat) : Int) by omega))) rfl ?_
    refine OS.pure rfl (e_shl (s := 7 * j) rfl rfl rfl (by simp [IntKind.bits]; omega) (in_u64 (by omega) (by omega))) rfl ?_
    refine OS.pure rfl (e_is (e_or rfl rfl rfl (by omega) (by omega)) (congrArg (fun x : Nat => Value.int .u64 (x : Int)) hor)) rfl ?_
    refine OS.pure rfl (fun _ => rfl) rfl ?_
    refine OS.nil ?_
    refine LS.seq ?_
    by_cases h128 : 128 ≤ bs[j].toNat
    · rw [if_pos h128] at hg
      have hb1 : ileB 128 (bs[j].toNat : Int) = true := ileB_iff.2 (by omega)
      repeat refine LS.seq ?_
      refine LS.region rfl ?_
      refine OS.pure rfl (fun _ => rfl) rfl ?_
      refine OS.pure rfl (e_is (fun _ => rfl) (congrArg Value.bool hb1)) rfl ?_
      refine OS.nil ?_
      refine LS.cond rfl (fun hc => ?_) (fun hc => by cases hc)
      refine LS.exit ?_
      repeat refine LS.seq ?_
      refine LS.region rfl ?_
      refine OS.pure rfl (e_add rfl rfl rfl (in_i64 (by omega) (by omega))) rfl ?_
      refine OS.pure rfl (fun _ => rfl) rfl ?_
      refine OS.nil ?_
      have hj8 : j ≠ 9 := fun h => h9 ⟨h, by omega⟩
      refine ⟨n - (j + 1), by omega, j + 1, _, rfl, by omega, by omega, ?_, hg, rfl, rfl⟩
      have hpow : 128 ^ (j + 1) = 128 ^ j * 128 := Nat.pow_succ ..
      have : bs[j].toNat % 128 * 128 ^ j ≤ 127 * 128 ^ j := Nat.mul_le_mul_right _ (by omega)
      omega
    rw [if_neg h128] at hg
    have hb1 : ileB 128 (bs[j].toNat : Int) = false := by rw [ileB_eq]; simp; omega
    repeat refine LS.seq ?_
    refine LS.region rfl ?_
    refine OS.pure rfl (fun _ => rfl) rfl ?_
    refine OS.pure rfl (e_is (fun _ => rfl) (congrArg Value.bool hb1)) rfl ?_
    refine OS.nil ?_
    refine LS.cond rfl (fun hc => by cases hc) (fun hc => ?_)
    refine LS.skip ?_
    by_cases h0 : bs[j].toNat = 0 ∧ 0 < j
    · rw [if_pos h0] at hg
      have hb2 : ieqB (bs[j].toNat : Int) 0 = true := by rw [ieqB_eq]; simp; omega
      have hb3 : (!ileB (j : Int) 0) = true := by rw [ileB_eq]; simp; omega
      repeat refine LS.seq ?_
      refine LS.region rfl ?_
      refine OS.pure rfl (fun _ => rfl) rfl ?_
      refine OS.pure rfl (e_is (fun _ => rfl) (congrArg Value.bool hb2)) rfl ?_
      refine OS.pure rfl (fun _ => rfl) rfl ?_
      refine OS.pure rfl (fun _ => rfl) rfl ?_
      refine OS.pure rfl (e_is (fun _ => rfl) (congrArg Value.bool hb3)) rfl ?_
      refine OS.pure rfl (fun _ => rfl) rfl ?_
      refine OS.nil ?_
      refine LS.cond rfl (fun hc => ?_) (fun hc => by cases hc)
      repeat refine LS.seq ?_
      refine LS.region rfl ?_
      refine OS.pure rfl (fun _ => rfl) rfl ?_
      refine OS.pure rfl (fun _ => rfl) rfl ?_
      refine OS.nil ?_
      refine LS.ret ⟨_, fun _ _ => rfl, ?_⟩
      rw [← hg]; exact ⟨rfl, rfl⟩
    rw [if_neg h0] at hg
    refine LS.seq ?_
    refine LS.mid [4, 5] (fun a L2 => L2 = L' ∧ a = [.chan none, .chan none, .chan none, .chan none, .int .u64 (u + bs[j].toNat % 128 * 128 ^ j : Nat), .int .i64 (j : Nat), .chan none, .chan none, .chan none, .chan none, .chan none, .chan none, .chan none, .chan none, .chan none, .chan none, .chan none, .chan none, .chan none, .chan none, .chan none, .chan none, .chan none, .chan none, .chan none, .chan none, .chan none, .chan none, .chan none, .chan none, .chan none, .chan none, .chan none, .chan none, .chan none, .chan none, .chan none, .chan none, .chan none, .chan none]) ?_ ?_
    · by_cases hz : bs[j].toNat = 0
      · have hb2 : ieqB (bs[j].toNat : Int) 0 = true := by rw [ieqB_eq]; simp; omega
        have hb3 : (!ileB (j : Int) 0) = false := by rw [ileB_eq]; simp; omega
        repeat refine LS.seq ?_
        refine LS.region rfl ?_
        refine OS.pure rfl (fun _ => rfl) rfl ?_
        refine OS.pure rfl (e_is (fun _ => rfl) (congrArg Value.bool hb2)) rfl ?_
        refine OS.pure rfl (fun _ => rfl) rfl ?_
        refine OS.pure rfl (fun _ => rfl) rfl ?_
        refine OS.pure rfl (e_is (fun _ => rfl) (congrArg Value.bool hb3)) rfl ?_
        refine OS.pure rfl (fun _ => rfl) rfl ?_
        refine OS.nil ?_
        refine LS.cond rfl (fun hc => by cases hc) (fun hc => ?_)
        refine LS.skip ?_
        exact ⟨rfl, rfl⟩
      · have hb2 : ieqB (bs[j].toNat : Int) 0 = false := by rw [ieqB_eq]; simp; omega
        repeat refine LS.seq ?_
        refine LS.region rfl ?_
        refine OS.pure rfl (fun _ => rfl) rfl ?_
        refine OS.pure rfl (e_is (fun _ => rfl) (congrArg Value.bool hb2)) rfl ?_
        refine OS.pure rfl (fun _ => rfl) rfl ?_
        refine OS.skip rfl rfl ?_
        refine OS.skip rfl rfl ?_
        refine OS.pure rfl (fun _ => rfl) rfl ?_
        refine OS.nil ?_
        refine LS.cond rfl (fun hc => by cases hc) (fun hc => ?_)
        refine LS.skip ?_
        exact ⟨rfl, rfl⟩
    rintro a L' ⟨rfl, rfl⟩
    repeat refine LS.seq ?_
    refine LS.region rfl ?_
    refine OS.pure rfl (fun _ => rfl) rfl ?_
    refine OS.pure rfl (fun _ => rfl) rfl ?_
    refine OS.pure rfl (e_add rfl rfl rfl (in_i64 (by omega) (by omega))) rfl ?_
    refine OS.pure rfl (fun _ => rfl) rfl ?_
    refine OS.pure rfl (fun _ => rfl) rfl ?_
    refine OS.nil ?_
    refine LS.ret ⟨_, fun _ _ => rfl, ?_⟩
    rw [← hg]; exact ⟨rfl, rfl⟩
  · have hc := nlt_of hc
    have hjn : j = n := by omega
    have hd : bs.drop j = [] := List.drop_eq_nil_of_le (by omega)
    rw [hd] at hg
    refine LS.exit ?_
    repeat refine LS.seq ?_
    refine LS.region rfl ?_
    refine OS.pure rfl (fun _ => rfl) rfl ?_
    refine OS.pure rfl (fun _ => rfl) rfl ?_
    refine OS.nil ?_
    refine LS.ret ⟨_, fun _ _ => rfl, ?_⟩
    rw [← hg]; exact ⟨rfl, rfl⟩

theorem unfold_ct {L : RL} (u : Nat) (hu : u < 18446744073709551616) : CS Try.prog 88 [.int .u64 (u : Nat)] L fun v L' => v = .int .i64 (unz u) ∧ L' = L := by
  refine CS.mk (fn := Try.f88) rfl rfl rfl rfl ?_
  repeat refine LS.seq ?_
  refine LS.region rfl ?_
  refine OS.pure rfl (fun _ => rfl) rfl ?_
  refine OS.nil ?_
  by_cases h : u % 2 = 1
  · have hb : ieqB ((u % 2 : Nat) : Int) 1 = true := by rw [ieqB_eq]; simp; omega
    repeat refine LS.seq ?_
    refine LS.region rfl ?_
    refine OS.pure rfl (fun _ => rfl) rfl ?_
    refine OS.pure rfl (e_rem (n := 2) rfl rfl rfl (by decide)) rfl ?_
    refine OS.pure rfl (e_is (fun _ => rfl) (congrArg Value.bool hb)) rfl ?_
    refine OS.nil ?_
    refine LS.cond rfl (fun hc => ?_) (fun hc => by cases hc)
    repeat refine LS.seq ?_
    refine LS.region rfl ?_
    refine OS.pure rfl (fun _ => rfl) rfl ?_
    refine OS.pure rfl (e_quo (n := 2) rfl rfl rfl (by decide) (in_u64 (by omega) (by omega))) rfl ?_
    refine OS.pure rfl (e_conv rfl rfl rfl rfl (in_i64 (by omega) (by omega))) rfl ?_
    refine OS.pure rfl (e_sub rfl rfl rfl (in_i64 (by omega) (by omega))) rfl ?_
    refine OS.pure rfl (fun _ => rfl) rfl ?_
    refine OS.nil ?_
    refine LS.ret ⟨_, fun _ _ => rfl, ?_⟩
    exact ⟨by unfold unz; rw [if_pos h]; rfl, rfl⟩
  · have hb : ieqB ((u % 2 : Nat) : Int) 1 = false := by rw [ieqB_eq]; simp; omega
    repeat refine LS.seq ?_
    refine LS.region rfl ?_
    refine OS.pure rfl (fun _ => rfl) rfl ?_
    refine OS.pure rfl (e_rem (n := 2) rfl rfl rfl (by decide)) rfl ?_
    refine OS.pure rfl (e_is (fun _ => rfl) (congrArg Value.bool hb)) rfl ?_
    refine OS.nil ?_
    refine LS.cond rfl (fun hc => by cases hc) (fun hc => ?_)
    refine LS.skip ?_
    repeat refine LS.seq ?_
    refine LS.region rfl ?_
    refine OS.pure rfl (fun _ => rfl) rfl ?_
    refine OS.pure rfl (e_quo (n := 2) rfl rfl rfl (by decide) (in_u64 (by omega) (by omega))) rfl ?_
    refine OS.pure rfl (e_conv rfl rfl rfl rfl (in_i64 (by omega) (by omega))) rfl ?_
    refine OS.pure rfl (fun _ => rfl) rfl ?_
    refine OS.nil ?_
    refine LS.ret ⟨_, fun _ _ => rfl, ?_⟩
    exact ⟨by unfold unz; rw [if_neg h]; rfl, rfl⟩

theorem numAt_ct {L : RL} {b : Value} {bs : List UInt8} (hb : OV L b bs) (hn : bs.length ≤ 9223372036854775807) :
    CS Try.prog 73 [b] L fun v L' => v = .tuple #[.int .i64 (unz (gat bs).1), .int .i64 ((gat bs).2 : Nat)] ∧ L' = L := by
  refine CS.mk (fn := Try.f73) rfl rfl rfl rfl ?_
  repeat refine LS.seq ?_
  refine LS.region rfl ?_
  refine OS.pure rfl (fun _ => rfl) rfl ?_
  refine OS.pure rfl (fun _ => rfl) rfl ?_
  refine OS.nil ?_
  repeat refine LS.seq ?_
  refine LS.region rfl ?_
  refine OS.pure rfl (fun _ => rfl) rfl ?_
  refine OS.call noGo rfl (fun _ => rfl) ((groupsAt_ct hb.sv hn).mono ?_)
  rintro v L' ⟨rfl, rfl⟩
  refine ⟨_, rfl, ?_⟩
  refine OS.pure rfl (fun _ => rfl) rfl ?_
  refine OS.pure rfl (fun _ => rfl) rfl ?_
  refine OS.pure rfl (fun _ => rfl) rfl ?_
  refine OS.pure rfl (fun _ => rfl) rfl ?_
  refine OS.pure rfl (fun _ => rfl) rfl ?_
  refine OS.nil ?_
  repeat refine LS.seq ?_
  refine LS.region rfl ?_
  refine OS.pure rfl (fun _ => rfl) rfl ?_
  refine OS.call noGo rfl (fun _ => rfl) ((unfold_ct (gat bs).1 (gat_lt bs)).mono ?_)
  rintro v L' ⟨rfl, rfl⟩
  refine ⟨_, rfl, ?_⟩
  refine OS.pure rfl (fun _ => rfl) rfl ?_
  refine OS.pure rfl (fun _ => rfl) rfl ?_
  refine OS.pure rfl (fun _ => rfl) rfl ?_
  refine OS.nil ?_
  refine LS.ret ⟨_, fun _ _ => rfl, ?_⟩
  exact ⟨rfl, rfl⟩

theorem countAt_ct {L : RL} {b : Value} {bs : List UInt8} (most : Int) (h0 : -9223372036854775808 ≤ most) (h1 : most ≤ 9223372036854775807) (hb : OV L b bs) (hn : bs.length ≤ 9223372036854775807) :
    CS Try.prog 76 [b, .int .i64 most] L fun v L' => v = .tuple #[.int .i64 ((cAt bs most).1 : Nat), .int .i64 ((cAt bs most).2 : Nat)] ∧ L' = L := by
  have hg := gat_lt bs
  refine CS.mk (fn := Try.f76) rfl rfl rfl rfl ?_
  repeat refine LS.seq ?_
  refine LS.region rfl ?_
  refine OS.pure rfl (fun _ => rfl) rfl ?_
  refine OS.pure rfl (fun _ => rfl) rfl ?_
  refine OS.nil ?_
  repeat refine LS.seq ?_
  refine LS.region rfl ?_
  refine OS.pure rfl (fun _ => rfl) rfl ?_
  refine OS.call noGo rfl (fun _ => rfl) ((groupsAt_ct hb.sv hn).mono ?_)
  rintro v L' ⟨rfl, rfl⟩
  refine ⟨_, rfl, ?_⟩
  refine OS.pure rfl (fun _ => rfl) rfl ?_
  refine OS.pure rfl (fun _ => rfl) rfl ?_
  refine OS.pure rfl (fun _ => rfl) rfl ?_
  refine OS.pure rfl (fun _ => rfl) rfl ?_
  refine OS.pure rfl (fun _ => rfl) rfl ?_
  refine OS.nil ?_
  by_cases hm : most < 0
  · have hb1 : (!ileB 0 most) = true := by rw [ileB_eq]; simp; omega
    repeat refine LS.seq ?_
    refine LS.region rfl ?_
    refine OS.pure rfl (fun _ => rfl) rfl ?_
    refine OS.pure rfl (e_is (fun _ => rfl) (congrArg Value.bool hb1)) rfl ?_
    refine OS.pure rfl (fun _ => rfl) rfl ?_
    refine OS.skip rfl rfl ?_
    refine OS.skip rfl rfl ?_
    refine OS.skip rfl rfl ?_
    refine OS.skip rfl rfl ?_
    refine OS.skip rfl rfl ?_
    refine OS.pure rfl (fun _ => rfl) rfl ?_
    refine OS.nil ?_
    refine LS.cond rfl (fun hc => ?_) (fun hc => by cases hc)
    repeat refine LS.seq ?_
    refine LS.region rfl ?_
    refine OS.pure rfl (fun _ => rfl) rfl ?_
    refine OS.pure rfl (fun _ => rfl) rfl ?_
    refine OS.nil ?_
    refine LS.ret ⟨_, fun _ _ => rfl, ?_⟩
    rw [cAt_no (.inl hm)]; exact ⟨rfl, rfl⟩
  have hb1 : (!ileB 0 most) = false := by rw [ileB_eq]; simp; omega
  repeat refine LS.seq ?_
  refine LS.region rfl ?_
  refine OS.pure rfl (fun _ => rfl) rfl ?_
  refine OS.pure rfl (e_is (fun _ => rfl) (congrArg Value.bool hb1)) rfl ?_
  refine OS.pure rfl (fun _ => rfl) rfl ?_
  refine OS.pure rfl (fun _ => rfl) rfl ?_
  refine OS.pure rfl (fun _ => rfl) rfl ?_
  refine OS.pure rfl (e_min rfl rfl rfl) rfl ?_
  refine OS.pure rfl (e_conv rfl rfl rfl rfl (in_u64 (by omega) (by omega))) rfl ?_
  refine OS.pure rfl (fun _ => rfl) rfl ?_
  refine OS.pure rfl (fun _ => rfl) rfl ?_
  refine OS.nil ?_
  refine LS.cond (b := !ileB ((gat bs).1 : Int) (min most 2147483647)) rfl (fun hc => ?_) (fun hc => ?_)
  · have hc := lt_of hc
    repeat refine LS.seq ?_
    refine LS.region rfl ?_
    refine OS.pure rfl (fun _ => rfl) rfl ?_
    refine OS.pure rfl (fun _ => rfl) rfl ?_
    refine OS.nil ?_
    refine LS.ret ⟨_, fun _ _ => rfl, ?_⟩
    rw [cAt_no (by omega)]; exact ⟨rfl, rfl⟩
  · have hc := nlt_of hc
    refine LS.skip ?_
    repeat refine LS.seq ?_
    refine LS.region rfl ?_
    refine OS.pure rfl (fun _ => rfl) rfl ?_
    refine OS.pure rfl (e_conv rfl rfl rfl rfl (in_i64 (by omega) (by omega))) rfl ?_
    refine OS.pure rfl (fun _ => rfl) rfl ?_
    refine OS.pure rfl (fun _ => rfl) rfl ?_
    refine OS.pure rfl (fun _ => rfl) rfl ?_
    refine OS.nil ?_
    refine LS.ret ⟨_, fun _ _ => rfl, ?_⟩
    rw [cAt_yes (by omega) (by omega) (by omega)]; exact ⟨rfl, rfl⟩

theorem strAt_ct {L : RL} {b : Value} {bs : List UInt8} (most : Int) (h0 : -9223372036854775808 ≤ most) (h1 : most ≤ 9223372036854775807) (hb : OV L b bs) (hn : bs.length ≤ 9223372036854775807) :
    CS Try.prog 79 [b, .int .i64 most] L fun v L' => v = .tuple #[.string ⟨⟨(sAt bs most).1⟩⟩, .int .i64 ((sAt bs most).2 : Nat)] ∧ L' = L := by
  obtain ⟨hc1, hc2, hc3⟩ := cAt_le bs most
  have hse := sAt_eq (bs := bs) (most := most) (m := (cAt bs most).1) (hd := (cAt bs most).2) rfl
  generalize hmm : (cAt bs most).1 = m at *
  generalize hhd : (cAt bs most).2 = hd at *
  refine CS.mk (fn := Try.f79) rfl rfl rfl rfl ?_
  repeat refine LS.seq ?_
  refine LS.region rfl ?_
  refine OS.pure rfl (fun _ => rfl) rfl ?_
  refine OS.pure rfl (fun _ => rfl) rfl ?_
  refine OS.nil ?_
  repeat refine LS.seq ?_
  refine LS.region rfl ?_
  refine OS.pure rfl (fun _ => rfl) rfl ?_
  refine OS.pure rfl (fun _ => rfl) rfl ?_
  refine OS.call noGo rfl (fun _ => rfl) ((countAt_ct most h0 h1 hb hn).mono ?_)
  rintro v L' ⟨rfl, rfl⟩
  rw [hmm, hhd]
  refine ⟨_, rfl, ?_⟩
  refine OS.pure rfl (fun _ => rfl) rfl ?_
  refine OS.pure rfl (fun _ => rfl) rfl ?_
  refine OS.pure rfl (fun _ => rfl) rfl ?_
  refine OS.pure rfl (fun _ => rfl) rfl ?_
  refine OS.pure rfl (fun _ => rfl) rfl ?_
  refine OS.nil ?_
  by_cases hz : hd = 0
  · have hb1 : ieqB (hd : Int) 0 = true := by rw [ieqB_eq]; simp; omega
    repeat refine LS.seq ?_
    refine LS.region rfl ?_
    refine OS.pure rfl (fun _ => rfl) rfl ?_
    refine OS.pure rfl (e_is (fun _ => rfl) (congrArg Value.bool hb1)) rfl ?_
    refine OS.pure rfl (fun _ => rfl) rfl ?_
    refine OS.skip rfl rfl ?_
    refine OS.skip rfl rfl ?_
    refine OS.skip rfl rfl ?_
    refine OS.skip rfl rfl ?_
    refine OS.skip rfl rfl ?_
    refine OS.skip rfl rfl ?_
    refine OS.pure rfl (fun _ => rfl) rfl ?_
    refine OS.nil ?_
    refine LS.cond rfl (fun hc => ?_) (fun hc => by cases hc)
    repeat refine LS.seq ?_
    refine LS.region rfl ?_
    refine OS.pure rfl (fun _ => rfl) rfl ?_
    refine OS.pure rfl (fun _ => rfl) rfl ?_
    refine OS.nil ?_
    refine LS.ret ⟨_, fun _ _ => rfl, ?_⟩
    rw [hse, if_pos (.inl hz)]; exact ⟨rfl, rfl⟩
  have hb1 : ieqB (hd : Int) 0 = false := by rw [ieqB_eq]; simp; omega
  repeat refine LS.seq ?_
  refine LS.region rfl ?_
  refine OS.pure rfl (fun _ => rfl) rfl ?_
  refine OS.pure rfl (e_is (fun _ => rfl) (congrArg Value.bool hb1)) rfl ?_
  refine OS.pure rfl (fun _ => rfl) rfl ?_
  refine OS.pure rfl (fun _ => rfl) rfl ?_
  refine OS.pure rfl (fun _ => rfl) rfl ?_
  refine OS.pure rfl (e_len hb.sv rfl rfl rfl rfl rfl) rfl ?_
  refine OS.pure rfl (fun _ => rfl) rfl ?_
  refine OS.pure rfl (e_sub (m := (bs.length : Nat)) (n := (hd : Nat)) rfl rfl rfl (in_i64 (by omega) (by omega))) rfl ?_
  refine OS.pure rfl (fun _ => rfl) rfl ?_
  refine OS.pure rfl (fun _ => rfl) rfl ?_
  refine OS.nil ?_
  refine LS.cond (b := !ileB (m : Int) ((bs.length : Int) - hd)) rfl (fun hc => ?_) (fun hc => ?_)
  · have hc := lt_of hc
    repeat refine LS.seq ?_
    refine LS.region rfl ?_
    refine OS.pure rfl (fun _ => rfl) rfl ?_
    refine OS.pure rfl (fun _ => rfl) rfl ?_
    refine OS.nil ?_
    refine LS.ret ⟨_, fun _ _ => rfl, ?_⟩
    rw [hse, if_pos (.inr (by omega))]; exact ⟨rfl, rfl⟩
  · have hc := nlt_of hc
    refine LS.skip ?_
    repeat refine LS.seq ?_
    refine LS.region rfl ?_
    refine OS.pure rfl (fun _ => rfl) rfl ?_
    refine OS.pure rfl (fun _ => rfl) rfl ?_
    refine OS.pure rfl (fun _ => rfl) rfl ?_
    refine OS.pure rfl (fun _ => rfl) rfl ?_
    refine OS.pure rfl (e_is (e_add (m := (hd : Nat)) (n := (m : Nat)) rfl rfl rfl (in_i64 (by omega) (by omega))) (congrArg (Value.int .i64) (show (hd : Int) + (m : Int) = ((hd + m : Nat) : Int) by omega))) rfl ?_
    refine OS.cutB (l := hd) (u := hd + m) hb rfl rfl rfl rfl rfl bound_nat bound_nat rfl rfl (by omega) (by omega) (fun v' hv' => ?_)
    refine ⟨_, rfl, ?_⟩
    refine OS.read rfl (e_textSV hv'.sv rfl rfl rfl rfl rfl) rfl ?_
    refine OS.pure rfl (fun _ => rfl) rfl ?_
    refine OS.pure rfl (fun _ => rfl) rfl ?_
    refine OS.pure rfl (e_is (e_add (m := (hd : Nat)) (n := (m : Nat)) rfl rfl rfl (in_i64 (by omega) (by omega))) (congrArg (Value.int .i64) (show (hd : Int) + (m : Int) = ((hd + m : Nat) : Int) by omega))) rfl ?_
    refine OS.pure rfl (fun _ => rfl) rfl ?_
    refine OS.pure rfl (fun _ => rfl) rfl ?_
    refine OS.nil ?_
    refine LS.ret ⟨_, fun _ _ => rfl, ?_⟩
    rw [hse, if_neg (by omega)]
    exact ⟨by rw [show hd + m - hd = m by omega]; rfl, rfl⟩

theorem flagAt_ct {L : RL} {b : Value} {bs : List UInt8} (hb : OV L b bs) :
    CS Try.prog 81 [b] L fun v L' => v = .tuple #[.bool (fAt bs).1, .int .i64 ((fAt bs).2 : Nat)] ∧ L' = L := by
  refine CS.mk (fn := Try.f81) rfl rfl rfl rfl ?_
  repeat refine LS.seq ?_
  refine LS.region rfl ?_
  refine OS.pure rfl (fun _ => rfl) rfl ?_
  refine OS.pure rfl (fun _ => rfl) rfl ?_
  refine OS.nil ?_
  cases bs with
  | nil =>
    repeat refine LS.seq ?_
    refine LS.region rfl ?_
    refine OS.pure rfl (fun _ => rfl) rfl ?_
    refine OS.pure rfl (e_len hb.sv rfl rfl rfl rfl rfl) rfl ?_
    refine OS.pure rfl (fun _ => rfl) rfl ?_
    refine OS.pure rfl (fun _ => rfl) rfl ?_
    refine OS.skip rfl rfl ?_
    refine OS.skip rfl rfl ?_
    refine OS.skip rfl rfl ?_
    refine OS.skip rfl rfl ?_
    refine OS.pure rfl (fun _ => rfl) rfl ?_
    refine OS.nil ?_
    refine LS.cond rfl (fun hc => ?_) (fun hc => by cases hc)
    repeat refine LS.seq ?_
    refine LS.region rfl ?_
    refine OS.pure rfl (fun _ => rfl) rfl ?_
    refine OS.pure rfl (fun _ => rfl) rfl ?_
    refine OS.nil ?_
    refine LS.ret ⟨_, fun _ _ => rfl, ?_⟩
    exact ⟨rfl, rfl⟩
  | cons c bs =>
    have hb1 : ieqB (((c :: bs).length : Nat) : Int) 0 = false := by rw [ieqB_eq]; simp; omega
    have hget : (byteCells (c :: bs))[0]? = some (.int .u8 (c.toNat : Int)) := rfl
    repeat refine LS.seq ?_
    refine LS.region rfl ?_
    refine OS.pure rfl (fun _ => rfl) rfl ?_
    refine OS.pure rfl (e_len hb.sv rfl rfl rfl rfl rfl) rfl ?_
    refine OS.pure rfl (e_is (fun _ => rfl) (congrArg Value.bool hb1)) rfl ?_
    refine OS.pure rfl (fun _ => rfl) rfl ?_
    refine OS.pure rfl (fun _ => rfl) rfl ?_
    refine OS.at1 (j := 0) hb.sv hget rfl rfl rfl rfl rfl rfl (fun r0 o0 row0 cs0 m0 c0 g0 => ?_)
    refine ⟨_, rfl, ?_⟩
    refine OS.read rfl (e_loadm m0 c0 rfl rfl (part_one rfl g0)) rfl ?_
    refine OS.pure rfl (fun _ => rfl) rfl ?_
    refine OS.pure rfl (fun _ => rfl) rfl ?_
    refine OS.nil ?_
    refine LS.cond (b := !ileB (c.toNat : Int) 1) rfl (fun hc => ?_) (fun hc => ?_)
    · have hc := lt_of hc
      repeat refine LS.seq ?_
      refine LS.region rfl ?_
      refine OS.pure rfl (fun _ => rfl) rfl ?_
      refine OS.pure rfl (fun _ => rfl) rfl ?_
      refine OS.nil ?_
      refine LS.ret ⟨_, fun _ _ => rfl, ?_⟩
      refine ⟨?_, rfl⟩
      simp only [fAt]
      rw [if_pos (by omega)]; rfl
    · have hc := nlt_of hc
      refine LS.skip ?_
      repeat refine LS.seq ?_
      refine LS.region rfl ?_
      refine OS.pure rfl (fun _ => rfl) rfl ?_
      refine OS.at1 (j := 0) hb.sv hget rfl rfl rfl rfl rfl rfl (fun r0 o0 row0 cs0 m0 c0 g0 => ?_)
      refine ⟨_, rfl, ?_⟩
      refine OS.read rfl (e_loadm m0 c0 rfl rfl (part_one rfl g0)) rfl ?_
      have he : ieqB (c.toNat : Int) 1 = (c == 1) := by
        rw [ieqB_eq]
        by_cases h : c = 1
        · subst h; rfl
        · have : c.toNat ≠ 1 := fun hh => h (UInt8.toNat_inj.1 hh)
          have h1 : ((c.toNat : Int) == 1) = false := by simpa using (show ¬ (c.toNat : Int) = 1 by omega)
          rw [h1]; simp [h]
      refine OS.pure rfl (e_is (fun _ => rfl) (congrArg Value.bool he)) rfl ?_
      refine OS.pure rfl (fun _ => rfl) rfl ?_
      refine OS.pure rfl (fun _ => rfl) rfl ?_
      refine OS.nil ?_
      refine LS.ret ⟨_, fun _ _ => rfl, ?_⟩
      refine ⟨?_, rfl⟩
      simp only [fAt]
      rw [if_neg (by omega)]; rfl
end Go.Proofs.Ytnfenpkkhkdkhaa
