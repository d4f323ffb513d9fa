/- Layer 5: the document's Load; FreemapLoads. -/
import Derived.Test.YtlifdkihjnnonaaFs
namespace Go.Am
variable {P : Program} {a : Slots} {o : Oper} {t z : TypeId} {x y : Operand} {k : IntKind} {m n : Nat}
theorem e_mulN (ho : o.op = .binOp .mul t x y z) (hx : aev a x = some (.int k (m : Int))) (hy : aev a y = some (.int k (n : Int))) (hi : inK k ((m * n : Nat) : Int) = true) : ∀ h, opB P a o h = some (.val (.int k ((m * n : Nat) : Int)) h) := by
  rw [Int.natCast_mul] at hi ⊢
  exact e_mul ho hx hy hi
theorem e_addN (ho : o.op = .binOp .add t x y z) (hx : aev a x = some (.int k (m : Int))) (hy : aev a y = some (.int k (n : Int))) (hi : inK k ((m + n : Nat) : Int) = true) : ∀ h, opB P a o h = some (.val (.int k ((m + n : Nat) : Int)) h) := by
  rw [Int.natCast_add] at hi ⊢
  exact e_add ho hx hy hi
theorem e_subN (ho : o.op = .binOp .sub t x y z) (hx : aev a x = some (.int k (m : Int))) (hy : aev a y = some (.int k (n : Int))) (hle : n ≤ m) (hi : inK k ((m - n : Nat) : Int) = true) : ∀ h, opB P a o h = some (.val (.int k ((m - n : Nat) : Int)) h) := by
  rw [Int.natCast_sub hle] at hi ⊢
  exact e_sub ho hx hy hi
end Go.Am
namespace Go.Proofs.Ytlifdkihjnnonaa
open Go.Am
set_option linter.unusedVariables false
set_option maxRecDepth 20000

/-- The count at the head, of so many bytes at most, and how many it has. -/
def dec : Nat → List UInt8 → Nat × Nat
  | 0, _ => (0, 0)
  | _ + 1, [] => (0, 0)
  | j + 1, c :: bs => if c.toNat < 128 then (c.toNat % 128, 1) else (c.toNat % 128 + 128 * (dec j bs).1, (dec j bs).2 + 1)
theorem dec_grp : ∀ (j n : Nat) (rest : List UInt8), n < 128 ^ (j + 1) → dec (j + 1) (grp n ++ rest) = (n, (grp n).length)
  | j, n, rest, h => by
    by_cases hn : n < 128
    · rw [grp_lt hn]
      have : (UInt8.ofNat n).toNat = n := toNat_of (by omega)
      simp only [List.cons_append, List.nil_append, dec, this]
      rw [if_pos hn, Nat.mod_eq_of_lt hn]; rfl
    · rw [grp_ge (by omega)]
      have : (UInt8.ofNat (n % 128 + 128)).toNat = n % 128 + 128 := toNat_of (by omega)
      simp only [List.cons_append, dec, this]
      rw [if_neg (by omega)]
      cases j with
      | zero => omega
      | succ j =>
        have hlt : n / 128 < 128 ^ (j + 1) := by rw [Nat.pow_succ] at h; omega
        rw [dec_grp j (n / 128) rest hlt]
        simp only [List.length_cons, Prod.mk.injEq, and_true]
        omega
theorem isMap_dec {bs : List UInt8} {T : List Bool} (h : isMap bs T) : dec 3 bs = (T.length, (grp T.length).length) ∧ bs.drop (dec 3 bs).2 = pk T ∧ bs.length = (grp T.length).length + (T.length + 7) / 8 := by
  obtain ⟨h1, rfl⟩ := h
  have e1 : dec 3 (mb T) = (T.length, (grp T.length).length) := dec_grp 2 T.length (pk T) (by omega)
  refine ⟨e1, ?_, ?_⟩
  · rw [e1]; exact List.drop_left
  · unfold mb; rw [List.length_append, pk_len]
theorem dec_at {bs : List UInt8} {at_ : Nat} {c : UInt8} (h3 : at_ < 3) (h : bs[at_]? = some c) : dec (3 - at_) (bs.drop at_) = if c.toNat < 128 then (c.toNat % 128, 1) else (c.toNat % 128 + 128 * (dec (3 - (at_ + 1)) (bs.drop (at_ + 1))).1, (dec (3 - (at_ + 1)) (bs.drop (at_ + 1))).2 + 1) := by
  have hlt := (List.getElem?_eq_some_iff.1 h).1
  have hc : bs[at_] = c := (List.getElem?_eq_some_iff.1 h).2
  rw [List.drop_eq_getElem_cons hlt, hc, show 3 - at_ = 3 - (at_ + 1) + 1 by omega]
  rfl
theorem bit_drop (bs : List UInt8) (at_ j : Nat) : bit (bs.drop at_) j = tb (bs[at_ + j / 8]?.getD 0) (j % 8) := by
  unfold bit; rw [List.getElem?_drop]

set_option maxHeartbeats 1000000 in
theorem rLoad_ct {L : RL} {b : Value} {bs : List UInt8} (hb : SV 1 L b bs.length (byteCells bs)) (hn : bs.length ≤ 1000) :
    CS Try.prog 30 [b] L fun v L' => (∃ T rx rt c, isMap bs T ∧ v = .tuple #[ptr rx, .int .i64 0] ∧ L' = rf rx rt c T L) ∨ ((∀ T, ¬ isMap bs T) ∧ v = .tuple #[.pointer none, .int .i64 4] ∧ L' = L) := by
  refine CS.mk (fn := Try.f30) rfl rfl rfl rfl ?_
  repeat refine LS.seq ?_
  refine LS.region rfl ?_
  refine OS.pure rfl (fun _ => rfl) rfl ?_
  refine OS.pure rfl (fun _ => rfl) rfl ?_
  refine OS.nil ?_
  repeat refine LS.seq ?_
  refine LS.region rfl ?_
  refine OS.pure rfl (fun _ => rfl) rfl ?_
  refine OS.nil ?_
  repeat refine LS.seq ?_
  refine LS.region rfl ?_
  refine OS.pure rfl (fun _ => rfl) rfl ?_
  refine OS.nil ?_
  repeat refine LS.seq ?_
  refine LS.region rfl ?_
  refine OS.pure rfl (fun _ => rfl) rfl ?_
  refine OS.nil ?_
  repeat refine LS.seq ?_
  refine LS.mid [0, 4, 6] (fun a L' => ∃ n at_ : Nat, n = (dec 3 bs).1 ∧ at_ = (dec 3 bs).2 ∧ n < 2097152 ∧ at_ ≤ 3 ∧ L' = L ∧ a = [b, .chan none, .chan none, .chan none, .int .i64 (n : Nat), .chan none, .int .i64 (at_ : Nat), .chan none, .chan none, .chan none, .chan none, .chan none, .chan none, .chan none, .chan none, .chan none, .chan none, .chan none, .chan none, .chan none, .chan none, .chan none, .chan none, .chan none, .chan none, .chan none, .chan none, .chan none, .chan none, .chan none, .chan none, .chan none, .chan none, .chan none, .chan none, .chan none, .chan none, .chan none, .chan none, .chan none, .chan none, .chan none, .chan none, .chan none, .chan none, .chan none, .chan none, .chan none, .chan none, .chan none, .chan none, .chan none, .chan none, .chan none, .chan none, .chan none, .chan none, .chan none, .chan none, .chan none, .chan none, .chan none, .chan none, .chan none, .chan none, .chan none, .chan none, .chan none, .chan none, .chan none, .chan none, .chan none, .chan none, .chan none, .chan none, .chan none, .chan none, .chan none, .chan none, .chan none, .chan none, .chan none, .chan none, .chan none, .chan none, .chan none, .chan none, .chan none, .chan none, .chan none, .chan none, .chan none, .chan none, .chan none, .chan none, .chan none, .chan none, .chan none, .chan none, .chan none, .chan none]) ?_ ?_
  · repeat refine LS.seq ?_
    refine LS.block ?_
    refine LS.loopJ [0, 4, 5, 6] (fun q a L' => ∃ n p at_ : Nat, q = 3 - at_ ∧ at_ ≤ 3 ∧ p = 128 ^ at_ ∧ n < p ∧ n + p * (dec (3 - at_) (bs.drop at_)).1 = (dec 3 bs).1 ∧ at_ + (dec (3 - at_) (bs.drop at_)).2 = (dec 3 bs).2 ∧ L' = L ∧ a = [b, .chan none, .chan none, .chan none, .int .i64 (n : Nat), .int .i64 (p : Nat), .int .i64 (at_ : Nat), .chan none, .chan none, .chan none, .chan none, .chan none, .chan none, .chan none, .chan none, .chan none, .chan none, .chan none, .chan none, .chan none, .chan none, .chan none, .chan none, .chan none, .chan none, .chan none, .chan none, .chan none, .chan none, .chan none, .chan none, .chan none, .chan none, .chan none, .chan none, .chan none, .chan none, .chan none, .chan none, .chan none, .chan none, .chan none, .chan none, .chan none, .chan none, .chan none, .chan none, .chan none, .chan none, .chan none, .chan none, .chan none, .chan none, .chan none, .chan none, .chan none, .chan none, .chan none, .chan none, .chan none, .chan none, .chan none, .chan none, .chan none, .chan none, .chan none, .chan none, .chan none, .chan none, .chan none, .chan none, .chan none, .chan none, .chan none, .chan none, .chan none, .chan none, .chan none, .chan none, .chan none, .chan none, .chan none, .chan none, .chan none, .chan none, .chan none, .chan none, .chan none, .chan none, .chan none, .chan none, .chan none, .chan none, .chan none, .chan none, .chan none, .chan none, .chan none, .chan none, .chan none, .chan none]) (n := 3) rfl
      ⟨0, 1, 0, rfl, by omega, rfl, by omega, by simp, by simp, rfl, rfl⟩ ?_
    rintro q a L' ⟨n, p, at_, rfl, hat, hp, hnp, hd1, hd2, hLL, rfl⟩
    subst hLL
    have hp3 : 128 ^ at_ ≤ 128 ^ 3 := Nat.pow_le_pow_right (by omega) hat
    have hp3' : 128 ^ at_ ≤ 2097152 := hp3
    by_cases h1 : at_ < bs.length ∧ at_ < 3
    · have hb1 : (!ileB (bs.length : Int) (at_ : Int)) = true := by rw [ileB_eq]; simp; omega
      have hb2 : (!ileB 3 (at_ : Int)) = true := by rw [ileB_eq]; simp; omega
      have hp2 : 128 ^ at_ ≤ 16384 := Nat.le_trans (Nat.pow_le_pow_right (by omega) (show at_ ≤ 2 by omega)) (by decide)
      have hcell : (byteCells bs)[at_]? = some (.int .u8 ((bs[at_]'h1.1).toNat : Nat)) := byteCells_get (List.getElem?_eq_getElem h1.1)
      have hdec := dec_at h1.2 (List.getElem?_eq_getElem h1.1)
      obtain ⟨c, hc⟩ : ∃ c, bs[at_]'h1.1 = c := ⟨_, rfl⟩
      rw [hc] at hcell hdec
      have hc256 := UInt8.toNat_lt c
      have hmul : c.toNat % 128 * p ≤ 127 * 16384 := Nat.mul_le_mul (by omega) (by omega)
      repeat refine LS.seq ?_
      refine LS.region rfl ?_
      refine OS.pure rfl (fun _ => rfl) rfl ?_
      refine OS.pure rfl (fun _ => rfl) rfl ?_
      refine OS.pure rfl (e_len hb rfl rfl rfl rfl rfl) rfl ?_
      refine OS.pure rfl (e_bools (fun _ => rfl) hb1) rfl ?_
      refine OS.pure rfl (fun _ => rfl) rfl ?_
      refine OS.pure rfl (fun _ => rfl) rfl ?_
      refine OS.pure rfl (e_bools (fun _ => rfl) hb2) rfl ?_
      refine OS.pure rfl (fun _ => rfl) rfl ?_
      refine OS.nil ?_
      repeat refine LS.seq ?_
      refine LS.cond rfl (fun hc => ?_) (fun hc => by cases hc)
      refine LS.skip ?_
      repeat refine LS.seq ?_
      refine LS.block ?_
      repeat refine LS.seq ?_
      refine LS.region rfl ?_
      refine OS.pure rfl (fun _ => rfl) rfl ?_
      refine OS.pure rfl (fun _ => rfl) rfl ?_
      refine OS.pure rfl (fun _ => rfl) rfl ?_
      refine OS.at1 (j := at_) hb hcell rfl rfl rfl rfl rfl rfl (fun r0 o0 row0 cs0 m0 c0 g0 => ?_)
      refine ⟨_, rfl, ?_⟩
      refine OS.read rfl (e_loadm m0 c0 rfl rfl (part_one rfl g0)) rfl ?_
      refine OS.pure rfl (e_rem (n := 128) rfl rfl rfl (by decide)) rfl ?_
      refine OS.pure rfl (e_conv rfl rfl rfl rfl (in_i64 (by omega) (by omega))) rfl ?_
      refine OS.pure rfl (fun _ => rfl) rfl ?_
      refine OS.pure rfl (e_mulN rfl rfl rfl (in_i64 (by omega) (by omega))) rfl ?_
      refine OS.pure rfl (e_addN rfl rfl rfl (in_i64 (by omega) (by omega))) rfl ?_
      refine OS.pure rfl (fun _ => rfl) rfl ?_
      refine OS.nil ?_
      repeat refine LS.seq ?_
      refine LS.region rfl ?_
      refine OS.pure rfl (fun _ => rfl) rfl ?_
      refine OS.pure rfl (e_mulN (n := 128) rfl rfl rfl (in_i64 (by omega) (by omega))) rfl ?_
      refine OS.pure rfl (fun _ => rfl) rfl ?_
      refine OS.nil ?_
      repeat refine LS.seq ?_
      refine LS.region rfl ?_
      refine OS.pure rfl (fun _ => rfl) rfl ?_
      refine OS.pure rfl (e_addN (n := 1) rfl rfl rfl (in_i64 (by omega) (by omega))) rfl ?_
      refine OS.pure rfl (fun _ => rfl) rfl ?_
      refine OS.nil ?_
      have hnew : n + c.toNat % 128 * p < p * 128 := by
        have h7 : c.toNat % 128 * p ≤ 127 * p := Nat.mul_le_mul_right _ (by omega)
        omega
      by_cases h128 : c.toNat < 128
      · rw [if_pos h128] at hdec
        have hb3 : (!ileB 128 (c.toNat : Int)) = true := by rw [ileB_eq]; simp; omega
        repeat refine LS.seq ?_
        refine LS.region rfl ?_
        refine OS.pure rfl (fun _ => rfl) rfl ?_
        refine OS.pure rfl (fun _ => rfl) rfl ?_
        refine OS.pure rfl (e_is (e_sub rfl rfl rfl (in_i64 (by omega) (by omega))) (show Value.int .i64 (((at_ + 1 : Nat) : Int) - 1) = .int .i64 (at_ : Nat) by congr 1; omega)) rfl ?_
        refine OS.at1 (j := at_) hb hcell rfl rfl rfl rfl rfl rfl (fun r0 o0 row0 cs0 m0 c0 g0 => ?_)
        refine ⟨_, rfl, ?_⟩
        refine OS.read rfl (e_loadm m0 c0 rfl rfl (part_one rfl g0)) rfl ?_
        refine OS.pure rfl (e_bools (fun _ => rfl) hb3) rfl ?_
        refine OS.nil ?_
        refine LS.cond rfl (fun hc => ?_) (fun hc => by cases hc)
        refine LS.exit ?_
        rw [hdec] at hd1 hd2
        refine ⟨n + c.toNat % 128 * p, at_ + 1, ?_, hd2, by omega, by omega, rfl, rfl⟩
        rw [← hd1, Nat.mul_comm p]
      · rw [if_neg h128] at hdec
        have hb3 : (!ileB 128 (c.toNat : Int)) = false := by rw [ileB_eq]; simp; omega
        repeat refine LS.seq ?_
        refine LS.region rfl ?_
        refine OS.pure rfl (fun _ => rfl) rfl ?_
        refine OS.pure rfl (fun _ => rfl) rfl ?_
        refine OS.pure rfl (e_is (e_sub rfl rfl rfl (in_i64 (by omega) (by omega))) (show Value.int .i64 (((at_ + 1 : Nat) : Int) - 1) = .int .i64 (at_ : Nat) by congr 1; omega)) rfl ?_
        refine OS.at1 (j := at_) hb hcell rfl rfl rfl rfl rfl rfl (fun r0 o0 row0 cs0 m0 c0 g0 => ?_)
        refine ⟨_, rfl, ?_⟩
        refine OS.read rfl (e_loadm m0 c0 rfl rfl (part_one rfl g0)) rfl ?_
        refine OS.pure rfl (e_bools (fun _ => rfl) hb3) rfl ?_
        refine OS.nil ?_
        refine LS.cond rfl (fun hc => by cases hc) (fun hc => ?_)
        refine LS.skip ?_
        rw [hdec] at hd1 hd2
        simp only at hd1 hd2
        refine ⟨3 - (at_ + 1), by omega, n + c.toNat % 128 * p, p * 128, at_ + 1, rfl, by omega, by rw [hp, Nat.pow_succ], hnew, ?_, by omega, rfl, rfl⟩
        rw [← hd1, Nat.mul_add, Nat.mul_comm p (c.toNat % 128), Nat.mul_assoc, Nat.add_assoc]
    · have hz : dec (3 - at_) (bs.drop at_) = (0, 0) := by
        by_cases h2 : at_ < 3
        · rw [List.drop_eq_nil_of_le (by omega)]
          cases 3 - at_ <;> rfl
        · rw [show 3 - at_ = 0 by omega]; rfl
      rw [hz] at hd1 hd2
      simp only [Nat.mul_zero, Nat.add_zero] at hd1 hd2
      have hout : ∀ a', keepJ [0, 4, 6] 0 a' = [b, .chan none, .chan none, .chan none, .int .i64 (n : Nat), .chan none, .int .i64 (at_ : Nat), .chan none, .chan none, .chan none, .chan none, .chan none, .chan none, .chan none, .chan none, .chan none, .chan none, .chan none, .chan none, .chan none, .chan none, .chan none, .chan none, .chan none, .chan none, .chan none, .chan none, .chan none, .chan none, .chan none, .chan none, .chan none, .chan none, .chan none, .chan none, .chan none, .chan none, .chan none, .chan none, .chan none, .chan none, .chan none, .chan none, .chan none, .chan none, .chan none, .chan none, .chan none, .chan none, .chan none, .chan none, .chan none, .chan none, .chan none, .chan none, .chan none, .chan none, .chan none, .chan none, .chan none, .chan none, .chan none, .chan none, .chan none, .chan none, .chan none, .chan none, .chan none, .chan none, .chan none, .chan none, .chan none, .chan none, .chan none, .chan none, .chan none, .chan none, .chan none, .chan none, .chan none, .chan none, .chan none, .chan none, .chan none, .chan none, .chan none, .chan none, .chan none, .chan none, .chan none, .chan none, .chan none, .chan none, .chan none, .chan none, .chan none, .chan none, .chan none, .chan none, .chan none, .chan none] → ∃ n at_ : Nat, n = (dec 3 bs).1 ∧ at_ = (dec 3 bs).2 ∧ n < 2097152 ∧ at_ ≤ 3 ∧ L' = L' ∧ keepJ [0, 4, 6] 0 a' = [b, .chan none, .chan none, .chan none, .int .i64 (n : Nat), .chan none, .int .i64 (at_ : Nat), .chan none, .chan none, .chan none, .chan none, .chan none, .chan none, .chan none, .chan none, .chan none, .chan none, .chan none, .chan none, .chan none, .chan none, .chan none, .chan none, .chan none, .chan none, .chan none, .chan none, .chan none, .chan none, .chan none, .chan none, .chan none, .chan none, .chan none, .chan none, .chan none, .chan none, .chan none, .chan none, .chan none, .chan none, .chan none, .chan none, .chan none, .chan none, .chan none, .chan none, .chan none, .chan none, .chan none, .chan none, .chan none, .chan none, .chan none, .chan none, .chan none, .chan none, .chan none, .chan none, .chan none, .chan none, .chan none, .chan none, .chan none, .chan none, .chan none, .chan none, .chan none, .chan none, .chan none, .chan none, .chan none, .chan none, .chan none, .chan none, .chan none, .chan none, .chan none, .chan none, .chan none, .chan none, .chan none, .chan none, .chan none, .chan none, .chan none, .chan none, .chan none, .chan none, .chan none, .chan none, .chan none, .chan none, .chan none, .chan none, .chan none, .chan none, .chan none, .chan none, .chan none, .chan none] := fun a' e => ⟨n, at_, hd1, hd2, by omega, hat, rfl, e⟩
      by_cases hl : at_ < bs.length
      · have hb1 : (!ileB (bs.length : Int) (at_ : Int)) = true := by rw [ileB_eq]; simp; omega
        have hb2 : (!ileB 3 (at_ : Int)) = false := by rw [ileB_eq]; simp; omega
        repeat refine LS.seq ?_
        refine LS.region rfl ?_
        refine OS.pure rfl (fun _ => rfl) rfl ?_
        refine OS.pure rfl (fun _ => rfl) rfl ?_
        refine OS.pure rfl (e_len hb rfl rfl rfl rfl rfl) rfl ?_
        refine OS.pure rfl (e_bools (fun _ => rfl) hb1) rfl ?_
        refine OS.pure rfl (fun _ => rfl) rfl ?_
        refine OS.pure rfl (fun _ => rfl) rfl ?_
        refine OS.pure rfl (e_bools (fun _ => rfl) hb2) rfl ?_
        refine OS.pure rfl (fun _ => rfl) rfl ?_
        refine OS.nil ?_
        repeat refine LS.seq ?_
        refine LS.cond rfl (fun hc => by cases hc) (fun hc => ?_)
        refine LS.exit ?_
        exact hout _ rfl
      · have hb1 : (!ileB (bs.length : Int) (at_ : Int)) = false := by rw [ileB_eq]; simp; omega
        repeat refine LS.seq ?_
        refine LS.region rfl ?_
        refine OS.pure rfl (fun _ => rfl) rfl ?_
        refine OS.pure rfl (fun _ => rfl) rfl ?_
        refine OS.pure rfl (e_len hb rfl rfl rfl rfl rfl) rfl ?_
        refine OS.pure rfl (e_bools (fun _ => rfl) hb1) rfl ?_
        refine OS.pure rfl (fun _ => rfl) rfl ?_
        refine OS.skip rfl rfl ?_
        refine OS.skip rfl rfl ?_
        refine OS.pure rfl (fun _ => rfl) rfl ?_
        refine OS.nil ?_
        repeat refine LS.seq ?_
        refine LS.cond rfl (fun hc => by cases hc) (fun hc => ?_)
        refine LS.exit ?_
        exact hout _ rfl
  rintro a L' ⟨n, at_, hdn, hda, hn2, hat, hLL, rfl⟩
  subst hLL
  have hrefuse : (32768 < n ∨ at_ + (n + 7) / 8 < bs.length) → ∀ T, ¬ isMap bs T := by
    rintro hor T hT
    obtain ⟨h1, h2, h3⟩ := isMap_dec hT
    have h4 := hT.1
    rw [h1] at hdn hda
    simp only at hdn hda
    rw [hdn, hda] at hor
    omega
  by_cases hbig : 32768 < n
  · have hb1 : (!ileB (n : Int) 32768) = true := by rw [ileB_eq]; simp; omega
    repeat refine LS.seq ?_
    refine LS.region rfl ?_
    refine OS.pure rfl (fun _ => rfl) rfl ?_
    refine OS.pure rfl (e_bools (fun _ => rfl) hb1) rfl ?_
    refine OS.pure rfl (fun _ => rfl) rfl ?_
    refine OS.skip rfl rfl ?_
    refine OS.skip rfl rfl ?_
    refine OS.skip rfl rfl ?_
    refine OS.skip rfl rfl ?_
    refine OS.skip rfl rfl ?_
    refine OS.skip rfl rfl ?_
    refine OS.skip rfl rfl ?_
    refine OS.skip rfl rfl ?_
    refine OS.pure rfl (fun _ => rfl) rfl ?_
    refine OS.nil ?_
    refine LS.cond rfl (fun hc => ?_) (fun hc => by cases hc)
    repeat refine LS.seq ?_
    refine LS.region rfl ?_
    refine OS.pure rfl (fun _ => rfl) rfl ?_
    refine OS.pure rfl (fun _ => rfl) rfl ?_
    refine OS.nil ?_
    refine LS.ret ⟨_, fun _ _ => rfl, ?_⟩
    exact .inr ⟨hrefuse (.inl hbig), rfl, rfl⟩
  have hb1 : (!ileB (n : Int) 32768) = false := by rw [ileB_eq]; simp; omega
  by_cases hmore : at_ + (n + 7) / 8 < bs.length
  · have hb2 : (!ileB (bs.length : Int) ((at_ + (n + 7) / 8 : Nat) : Int)) = true := by rw [ileB_eq]; simp; omega
    repeat refine LS.seq ?_
    refine LS.region rfl ?_
    refine OS.pure rfl (fun _ => rfl) rfl ?_
    refine OS.pure rfl (e_bools (fun _ => rfl) hb1) rfl ?_
    refine OS.pure rfl (fun _ => rfl) rfl ?_
    refine OS.pure rfl (fun _ => rfl) rfl ?_
    refine OS.pure rfl (e_len hb rfl rfl rfl rfl rfl) rfl ?_
    refine OS.pure rfl (fun _ => rfl) rfl ?_
    refine OS.pure rfl (fun _ => rfl) rfl ?_
    refine OS.pure rfl (e_add (n := 7) rfl rfl rfl (in_i64 (by omega) (by omega))) rfl ?_
    refine OS.pure rfl (e_quo (m := n + 7) (n := 8) rfl rfl rfl (by decide) (in_i64 (by omega) (by omega))) rfl ?_
    refine OS.pure rfl (e_addN rfl rfl rfl (in_i64 (by omega) (by omega))) rfl ?_
    refine OS.pure rfl (e_bools (fun _ => rfl) hb2) rfl ?_
    refine OS.pure rfl (fun _ => rfl) rfl ?_
    refine OS.nil ?_
    refine LS.cond rfl (fun hc => ?_) (fun hc => by cases hc)
    repeat refine LS.seq ?_
    refine LS.region rfl ?_
    refine OS.pure rfl (fun _ => rfl) rfl ?_
    refine OS.pure rfl (fun _ => rfl) rfl ?_
    refine OS.nil ?_
    refine LS.ret ⟨_, fun _ _ => rfl, ?_⟩
    exact .inr ⟨hrefuse (.inr hmore), rfl, rfl⟩
  have hb2 : (!ileB (bs.length : Int) ((at_ + (n + 7) / 8 : Nat) : Int)) = false := by rw [ileB_eq]; simp; omega
  repeat refine LS.seq ?_
  refine LS.region rfl ?_
  refine OS.pure rfl (fun _ => rfl) rfl ?_
  refine OS.pure rfl (e_bools (fun _ => rfl) hb1) rfl ?_
  refine OS.pure rfl (fun _ => rfl) rfl ?_
  refine OS.pure rfl (fun _ => rfl) rfl ?_
  refine OS.pure rfl (e_len hb rfl rfl rfl rfl rfl) rfl ?_
  refine OS.pure rfl (fun _ => rfl) rfl ?_
  refine OS.pure rfl (fun _ => rfl) rfl ?_
  refine OS.pure rfl (e_add (n := 7) rfl rfl rfl (in_i64 (by omega) (by omega))) rfl ?_
  refine OS.pure rfl (e_quo (m := n + 7) (n := 8) rfl rfl rfl (by decide) (in_i64 (by omega) (by omega))) rfl ?_
  refine OS.pure rfl (e_addN rfl rfl rfl (in_i64 (by omega) (by omega))) rfl ?_
  refine OS.pure rfl (e_bools (fun _ => rfl) hb2) rfl ?_
  refine OS.pure rfl (fun _ => rfl) rfl ?_
  refine OS.nil ?_
  refine LS.cond rfl (fun hc => by cases hc) (fun hc => ?_)
  refine LS.skip ?_
  repeat refine LS.seq ?_
  refine LS.region rfl ?_
  refine OS.pure rfl (fun _ => rfl) rfl ?_
  refine OS.fresh rfl (e_make (l := n) (c := n) rfl rfl rfl makeT_bools (Nat.le_refl _) (by omega) (by omega)) (fun _ => rfl) (fun rt => ?_)
  rw [repL_bool]
  refine OS.pure rfl (fun _ => rfl) rfl ?_
  refine OS.fresh rfl (e_new (fun _ => rfl) rfl) (fun _ => rfl) (fun rx => ?_)
  refine OS.pure rfl (fun _ => rfl) rfl ?_
  refine OS.nil ?_
  repeat refine LS.seq ?_
  refine LS.region rfl ?_
  refine OS.pure rfl (fun _ => rfl) rfl ?_
  refine OS.nil ?_
  repeat refine LS.seq ?_
  refine LS.mid [0, 7] (fun a L2 => ∃ S : List Bool, S.length = n ∧ (∀ j, j < n → tkn S j = bit (bs.drop at_) j) ∧ L2 = rf rx rt n S L' ∧ a = [b, .chan none, .chan none, .chan none, .chan none, .chan none, .chan none, ptr rx, .chan none, .chan none, .chan none, .chan none, .chan none, .chan none, .chan none, .chan none, .chan none, .chan none, .chan none, .chan none, .chan none, .chan none, .chan none, .chan none, .chan none, .chan none, .chan none, .chan none, .chan none, .chan none, .chan none, .chan none, .chan none, .chan none, .chan none, .chan none, .chan none, .chan none, .chan none, .chan none, .chan none, .chan none, .chan none, .chan none, .chan none, .chan none, .chan none, .chan none, .chan none, .chan none, .chan none, .chan none, .chan none, .chan none, .chan none, .chan none, .chan none, .chan none, .chan none, .chan none, .chan none, .chan none, .chan none, .chan none, .chan none, .chan none, .chan none, .chan none, .chan none, .chan none, .chan none, .chan none, .chan none, .chan none, .chan none, .chan none, .chan none, .chan none, .chan none, .chan none, .chan none, .chan none, .chan none, .chan none, .chan none, .chan none, .chan none, .chan none, .chan none, .chan none, .chan none, .chan none, .chan none, .chan none, .chan none, .chan none, .chan none, .chan none, .chan none, .chan none, .chan none]) ?_ ?_
  · repeat refine LS.seq ?_
    refine LS.block ?_
    refine LS.loopJ [0, 4, 6, 7, 8] (fun q a L2 => ∃ (i : Nat) (S : List Bool), q = n - i ∧ i ≤ n ∧ S.length = n ∧ (∀ j, j < i → tkn S j = bit (bs.drop at_) j) ∧ (∀ j, i ≤ j → tkn S j = false) ∧ L2 = rf rx rt n S L' ∧ a = [b, .chan none, .chan none, .chan none, .int .i64 (n : Nat), .chan none, .int .i64 (at_ : Nat), ptr rx, .int .i64 (i : Nat), .chan none, .chan none, .chan none, .chan none, .chan none, .chan none, .chan none, .chan none, .chan none, .chan none, .chan none, .chan none, .chan none, .chan none, .chan none, .chan none, .chan none, .chan none, .chan none, .chan none, .chan none, .chan none, .chan none, .chan none, .chan none, .chan none, .chan none, .chan none, .chan none, .chan none, .chan none, .chan none, .chan none, .chan none, .chan none, .chan none, .chan none, .chan none, .chan none, .chan none, .chan none, .chan none, .chan none, .chan none, .chan none, .chan none, .chan none, .chan none, .chan none, .chan none, .chan none, .chan none, .chan none, .chan none, .chan none, .chan none, .chan none, .chan none, .chan none, .chan none, .chan none, .chan none, .chan none, .chan none, .chan none, .chan none, .chan none, .chan none, .chan none, .chan none, .chan none, .chan none, .chan none, .chan none, .chan none, .chan none, .chan none, .chan none, .chan none, .chan none, .chan none, .chan none, .chan none, .chan none, .chan none, .chan none, .chan none, .chan none, .chan none, .chan none, .chan none, .chan none]) (n := n) rfl
      ⟨0, List.replicate n false, rfl, by omega, List.length_replicate, fun j hj => by omega, fun j _ => tkn_zeros _ _, by simp only [rf, List.length_replicate]; rfl, rfl⟩ ?_
    rintro q a L2 ⟨i, S, rfl, hi, hS, hlo, hhi, rfl, rfl⟩
    have hbM : SV 1 (rf rx rt n S L') b bs.length (byteCells bs) := hb.cons.cons
    by_cases hin : i < n
    · have hc1 : (!ileB (n : Int) (i : Int)) = true := by rw [ileB_eq]; simp; omega
      by_cases hil : at_ + i / 8 < bs.length
      · have hc2 : (!ileB (bs.length : Int) ((at_ + i / 8 : Nat) : Int)) = true := by rw [ileB_eq]; simp; omega
        repeat refine LS.seq ?_
        refine LS.region rfl ?_
        refine OS.pure rfl (fun _ => rfl) rfl ?_
        refine OS.pure rfl (fun _ => rfl) rfl ?_
        refine OS.pure rfl (e_bools (fun _ => rfl) hc1) rfl ?_
        refine OS.pure rfl (fun _ => rfl) rfl ?_
        refine OS.pure rfl (fun _ => rfl) rfl ?_
        refine OS.pure rfl (fun _ => rfl) rfl ?_
        refine OS.pure rfl (e_quo (m := i) (n := 8) rfl rfl rfl (by decide) (in_i64 (by omega) (by omega))) rfl ?_
        refine OS.pure rfl (e_addN rfl rfl rfl (in_i64 (by omega) (by omega))) rfl ?_
        refine OS.pure rfl (fun _ => rfl) rfl ?_
        refine OS.pure rfl (e_len hb rfl rfl rfl rfl rfl) rfl ?_
        refine OS.pure rfl (e_bools (fun _ => rfl) hc2) rfl ?_
        refine OS.pure rfl (fun _ => rfl) rfl ?_
        refine OS.nil ?_
        repeat refine LS.seq ?_
        refine LS.cond rfl (fun hc => ?_) (fun hc => by cases hc)
        refine LS.skip ?_
        obtain ⟨c, hcd⟩ : ∃ c, bs[at_ + i / 8] = c := ⟨_, rfl⟩
        have hcell : (byteCells bs)[at_ + i / 8]? = some (.int .u8 (c.toNat : Nat)) := by rw [← hcd]; exact byteCells_get (List.getElem?_eq_getElem hil)
        have hc256 := UInt8.toNat_lt c
        have hbit : bit (bs.drop at_) i = tb c (i % 8) := by rw [bit_drop, List.getElem?_eq_getElem hil, hcd]; rfl
        repeat refine LS.seq ?_
        refine LS.block ?_
        repeat refine LS.seq ?_
        refine LS.region rfl ?_
        refine OS.pure rfl (fun _ => rfl) rfl ?_
        refine OS.pure rfl (fun _ => rfl) rfl ?_
        refine OS.pure rfl (fun _ => rfl) rfl ?_
        refine OS.pure rfl (e_quo (m := i) (n := 8) rfl rfl rfl (by decide) (in_i64 (by omega) (by omega))) rfl ?_
        refine OS.pure rfl (e_addN rfl rfl rfl (in_i64 (by omega) (by omega))) rfl ?_
        refine OS.at1 (j := at_ + i / 8) hbM hcell rfl rfl rfl rfl rfl rfl (fun r0 o0 row0 cs0 m0 c0 g0 => ?_)
        refine ⟨_, rfl, ?_⟩
        refine OS.read rfl (e_loadm m0 c0 rfl rfl (part_one rfl g0)) rfl ?_
        refine OS.pure rfl (e_conv rfl rfl rfl rfl (in_i64 (by omega) (by omega))) rfl ?_
        refine OS.pure rfl (fun _ => rfl) rfl ?_
        refine OS.nil ?_
        repeat refine LS.seq ?_
        refine LS.region rfl ?_
        refine OS.pure rfl (fun _ => rfl) rfl ?_
        refine OS.nil ?_
        repeat refine LS.seq ?_
        refine LS.mid [0, 4, 6, 7, 8, 9] (fun a L3 => L3 = rf rx rt n S L' ∧ ∃ x : Nat, x = c.toNat / 2 ^ (i % 8) ∧ a = [b, .chan none, .chan none, .chan none, .int .i64 (n : Nat), .chan none, .int .i64 (at_ : Nat), ptr rx, .int .i64 (i : Nat), .int .i64 (x : Nat), .chan none, .chan none, .chan none, .chan none, .chan none, .chan none, .chan none, .chan none, .chan none, .chan none, .chan none, .chan none, .chan none, .chan none, .chan none, .chan none, .chan none, .chan none, .chan none, .chan none, .chan none, .chan none, .chan none, .chan none, .chan none, .chan none, .chan none, .chan none, .chan none, .chan none, .chan none, .chan none, .chan none, .chan none, .chan none, .chan none, .chan none, .chan none, .chan none, .chan none, .chan none, .chan none, .chan none, .chan none, .chan none, .chan none, .chan none, .chan none, .chan none, .chan none, .chan none, .chan none, .chan none, .chan none, .chan none, .chan none, .chan none, .chan none, .chan none, .chan none, .chan none, .chan none, .chan none, .chan none, .chan none, .chan none, .chan none, .chan none, .chan none, .chan none, .chan none, .chan none, .chan none, .chan none, .chan none, .chan none, .chan none, .chan none, .chan none, .chan none, .chan none, .chan none, .chan none, .chan none, .chan none, .chan none, .chan none, .chan none, .chan none, .chan none, .chan none]) ?_ ?_
        · repeat refine LS.seq ?_
          refine LS.block ?_
          refine LS.loopJ [0, 4, 6, 7, 8, 9, 10] (fun q a L3 => ∃ k x : Nat, q = i % 8 - k ∧ k ≤ i % 8 ∧ x = c.toNat / 2 ^ k ∧ L3 = rf rx rt n S L' ∧ a = [b, .chan none, .chan none, .chan none, .int .i64 (n : Nat), .chan none, .int .i64 (at_ : Nat), ptr rx, .int .i64 (i : Nat), .int .i64 (x : Nat), .int .i64 (k : Nat), .chan none, .chan none, .chan none, .chan none, .chan none, .chan none, .chan none, .chan none, .chan none, .chan none, .chan none, .chan none, .chan none, .chan none, .chan none, .chan none, .chan none, .chan none, .chan none, .chan none, .chan none, .chan none, .chan none, .chan none, .chan none, .chan none, .chan none, .chan none, .chan none, .chan none, .chan none, .chan none, .chan none, .chan none, .chan none, .chan none, .chan none, .chan none, .chan none, .chan none, .chan none, .chan none, .chan none, .chan none, .chan none, .chan none, .chan none, .chan none, .chan none, .chan none, .chan none, .chan none, .chan none, .chan none, .chan none, .chan none, .chan none, .chan none, .chan none, .chan none, .chan none, .chan none, .chan none, .chan none, .chan none, .chan none, .chan none, .chan none, .chan none, .chan none, .chan none, .chan none, .chan none, .chan none, .chan none, .chan none, .chan none, .chan none, .chan none, .chan none, .chan none, .chan none, .chan none, .chan none, .chan none, .chan none, .chan none, .chan none, .chan none, .chan none]) (n := i % 8) rfl
            ⟨0, c.toNat, rfl, by omega, by simp, rfl, rfl⟩ ?_
          rintro q a L3 ⟨k, x, rfl, hk, hx, rfl, rfl⟩
          have hxle : x ≤ c.toNat := by rw [hx]; exact Nat.div_le_self _ _
          repeat refine LS.seq ?_
          refine LS.region rfl ?_
          refine OS.pure rfl (fun _ => rfl) rfl ?_
          refine OS.pure rfl (fun _ => rfl) rfl ?_
          refine OS.pure rfl (e_rem (m := i) (n := 8) rfl rfl rfl (by decide)) rfl ?_
          refine OS.pure rfl (fun _ => rfl) rfl ?_
          refine OS.nil ?_
          repeat refine LS.seq ?_
          refine LS.cond rfl (fun hc => ?_) (fun hc => ?_)
          · have hc := lt_of hc
            have hkl : k < i % 8 := by omega
            refine LS.skip ?_
            repeat refine LS.seq ?_
            refine LS.block ?_
            repeat refine LS.seq ?_
            refine LS.region rfl ?_
            refine OS.pure rfl (fun _ => rfl) rfl ?_
            refine OS.pure rfl (e_quo (m := x) (n := 2) rfl rfl rfl (by decide) (in_i64 (by omega) (by omega))) rfl ?_
            refine OS.pure rfl (fun _ => rfl) rfl ?_
            refine OS.nil ?_
            repeat refine LS.seq ?_
            refine LS.region rfl ?_
            refine OS.pure rfl (fun _ => rfl) rfl ?_
            refine OS.pure rfl (e_addN (n := 1) rfl rfl rfl (in_i64 (by omega) (by omega))) rfl ?_
            refine OS.pure rfl (fun _ => rfl) rfl ?_
            refine OS.nil ?_
            exact ⟨i % 8 - (k + 1), by omega, k + 1, x / 2, rfl, by omega, by rw [hx, Nat.div_div_eq_div_mul, Nat.pow_succ], rfl, rfl⟩
          · have hc := nlt_of hc
            have hkl : k = i % 8 := by omega
            subst hkl
            refine LS.exit ?_
            exact ⟨rfl, x, hx, rfl⟩
        rintro a L3 ⟨rfl, x, hx, rfl⟩
        have hval : ieqB ((x % 2 : Nat) : Int) 1 = bit (bs.drop at_) i := by
          have hy : tb c (i % 8) = decide (x % 2 = 1) := by unfold tb; rw [Nat.testBit_eq_decide_div_mod_eq, hx]
          rw [hbit, ieqB_eq, hy]
          by_cases h : x % 2 = 1
          · simp [h]
          · have h0 : x % 2 = 0 := by omega
            simp [h0]
        repeat refine LS.seq ?_
        refine LS.region rfl ?_
        refine OS.pure rfl (fun _ => rfl) rfl ?_
        refine OS.pure rfl (fun _ => rfl) rfl ?_
        refine OS.pure rfl (fun _ => rfl) rfl ?_
        refine OS.read rfl (e_load 0 rfl rfl rfl rfl rfl) rfl ?_
        refine OS.pure rfl (fun _ => rfl) rfl ?_
        refine OS.pure rfl (fun _ => rfl) rfl ?_
        refine OS.pure rfl (e_rem (m := x) (n := 2) rfl rfl rfl (by decide)) rfl ?_
        refine OS.pure rfl (e_bools (fun _ => rfl) hval) rfl ?_
        refine OS.pure rfl (e_index (j := i) (sz := 1) rfl rfl rfl rfl rfl (show i < S.length by omega)) rfl ?_
        refine OS.write rfl (e_store 1 (n := 1) rfl rfl rfl rfl rfl rfl (lay_bool (T := S) _ (by omega)) rfl) rfl ?_
        refine OS.nil ?_
        repeat refine LS.seq ?_
        refine LS.region rfl ?_
        refine OS.pure rfl (fun _ => rfl) rfl ?_
        refine OS.pure rfl (e_addN (n := 1) rfl rfl rfl (in_i64 (by omega) (by omega))) rfl ?_
        refine OS.pure rfl (fun _ => rfl) rfl ?_
        refine OS.nil ?_
        refine ⟨n - (i + 1), by omega, i + 1, S.set i (bit (bs.drop at_) i), rfl, by omega, by rw [List.length_set]; exact hS, fun j hj => ?_, fun j hj => ?_, by simp only [rf, List.length_set], rfl⟩
        · rw [tkn_set (by omega)]
          split
          · rename_i e; rw [e]
          · exact hlo j (by omega)
        · rw [tkn_set (by omega), if_neg (by omega)]
          exact hhi j (by omega)
      · have hc2 : (!ileB (bs.length : Int) ((at_ + i / 8 : Nat) : Int)) = false := by rw [ileB_eq]; simp; omega
        repeat refine LS.seq ?_
        refine LS.region rfl ?_
        refine OS.pure rfl (fun _ => rfl) rfl ?_
        refine OS.pure rfl (fun _ => rfl) rfl ?_
        refine OS.pure rfl (e_bools (fun _ => rfl) hc1) rfl ?_
        refine OS.pure rfl (fun _ => rfl) rfl ?_
        refine OS.pure rfl (fun _ => rfl) rfl ?_
        refine OS.pure rfl (fun _ => rfl) rfl ?_
        refine OS.pure rfl (e_quo (m := i) (n := 8) rfl rfl rfl (by decide) (in_i64 (by omega) (by omega))) rfl ?_
        refine OS.pure rfl (e_addN rfl rfl rfl (in_i64 (by omega) (by omega))) rfl ?_
        refine OS.pure rfl (fun _ => rfl) rfl ?_
        refine OS.pure rfl (e_len hb rfl rfl rfl rfl rfl) rfl ?_
        refine OS.pure rfl (e_bools (fun _ => rfl) hc2) rfl ?_
        refine OS.pure rfl (fun _ => rfl) rfl ?_
        refine OS.nil ?_
        repeat refine LS.seq ?_
        refine LS.cond rfl (fun hc => by cases hc) (fun hc => ?_)
        refine LS.exit ?_
        refine ⟨S, hS, fun j hj => ?_, rfl, rfl⟩
        by_cases h : j < i
        · exact hlo j h
        · rw [hhi j (by omega), bit_out (by rw [List.length_drop]; omega)]
    · have hc1 : (!ileB (n : Int) (i : Int)) = false := by rw [ileB_eq]; simp; omega
      repeat refine LS.seq ?_
      refine LS.region rfl ?_
      refine OS.pure rfl (fun _ => rfl) rfl ?_
      refine OS.pure rfl (fun _ => rfl) rfl ?_
      refine OS.pure rfl (e_bools (fun _ => rfl) hc1) rfl ?_
      refine OS.pure rfl (fun _ => rfl) rfl ?_
      refine OS.skip rfl rfl ?_
      refine OS.skip rfl rfl ?_
      refine OS.skip rfl rfl ?_
      refine OS.skip rfl rfl ?_
      refine OS.skip rfl rfl ?_
      refine OS.skip rfl rfl ?_
      refine OS.skip rfl rfl ?_
      refine OS.pure rfl (fun _ => rfl) rfl ?_
      refine OS.nil ?_
      repeat refine LS.seq ?_
      refine LS.cond rfl (fun hc => by cases hc) (fun hc => ?_)
      refine LS.exit ?_
      exact ⟨S, hS, fun j hj => hlo j (by omega), rfl, rfl⟩
  rintro a L2 ⟨S, hS, hall, rfl, rfl⟩
  have hS3 : S.length ≤ 32768 := by omega
  repeat refine LS.seq ?_
  refine LS.drawn noGo mixed [(0, false), (3, false), (4, false), (1, true), (2, false), (5, false)] rfl rfl (by kernel_rfl) ?_
  refine ODS.pure rfl rfl (fun _ => rfl) rfl ?_
  refine ODS.pure rfl rfl (fun _ => rfl) rfl ?_
  refine ODS.read rfl rfl (e_textSV hb.cons.cons rfl rfl rfl rfl rfl) rfl ?_
  refine ODS.call rfl rfl (fun _ => rfl) ((rBytes_ct (F := L') (rx := rx) (rt := rt) (c := n) hS3).mono ?_)
  rintro v L3 hg
  refine ⟨_, rfl, Keep.cons rfl (e_textSV (hb.mono fun p hp => hg.mem _ (by simp [hp])) rfl rfl rfl rfl rfl) Keep.nil, ?_⟩
  refine ODS.read rfl rfl (e_textSV hg.sv rfl rfl rfl rfl rfl) rfl ?_
  by_cases hsame : mb S = bs
  · rw [hsame]
    refine ODS.pure rfl rfl (e_bools (fun _ => rfl) (show (!bytesEq bs bs) = false by rw [bytesEq_eq]; simp)) rfl ?_
    refine ODS.nil ?_
    refine LS.cond rfl (fun hc => by cases hc) (fun hc => ?_)
    refine LS.skip ?_
    refine LS.sub (gv_drop hg) ?_
    repeat refine LS.seq ?_
    refine LS.region rfl ?_
    refine OS.pure rfl (fun _ => rfl) rfl ?_
    refine OS.pure rfl (fun _ => rfl) rfl ?_
    refine OS.pure rfl (fun _ => rfl) rfl ?_
    refine OS.nil ?_
    refine LS.ret ⟨_, fun _ _ => rfl, ?_⟩
    refine .inl ⟨S, rx, rt, n, ⟨hS3, hsame.symm⟩, rfl, ?_⟩
    simp only [rf, hS]
  · refine ODS.pure rfl rfl (e_bools (fun _ => rfl) (show (!bytesEq (mb S) bs) = true by rw [bytesEq_eq]; simpa using hsame)) rfl ?_
    refine ODS.nil ?_
    refine LS.cond rfl (fun hc => ?_) (fun hc => by cases hc)
    refine LS.sub (gv_drop hg) ?_
    repeat refine LS.seq ?_
    refine LS.region rfl ?_
    refine OS.sub (Sub.drop 0 rfl) ?_
    refine OS.sub (Sub.drop 0 rfl) ?_
    refine OS.pure rfl (fun _ => rfl) rfl ?_
    refine OS.pure rfl (fun _ => rfl) rfl ?_
    refine OS.nil ?_
    refine LS.ret ⟨_, fun _ _ => rfl, ?_⟩
    refine .inr ⟨fun T hT => hsame ?_, rfl, rfl⟩
    obtain ⟨h1, h2, h3⟩ := isMap_dec hT
    have hnT : n = T.length := by rw [hdn, h1]
    have : S = T := by
      refine list_ext (by omega) fun j => ?_
      by_cases hj : j < n
      · rw [hall j hj, hda, h2, pk_bit]
      · rw [tkn_out (by omega), tkn_out (by omega)]
    rw [this]
    exact hT.2.symm
end Go.Proofs.Ytlifdkihjnnonaa
