/- Layer 5: what the calls of package freemap come to: asking and turning blocks. -/
import Derived.Test.YteiiekfccecoiaaBFa
namespace Go.Am
variable {P : Program} {a : Slots} {o : Oper} {t z : TypeId} {x y : Operand}
theorem e_shr {k k' : IntKind} {m s : Nat} (ho : o.op = .binOp .shr t x y z) (hx : aev a x = some (.int k (m : Int))) (hy : aev a y = some (.int k' (s : Int))) (hs : s ≤ k.bits) : ∀ h, opB P a o h = some (.val (.int k ((m / 2 ^ s : Nat) : Int)) h) := by
  intro h
  have h0 : ileB 0 (s : Int) = true := ileB_iff.2 (by omega)
  have h1 : (m : Int).fdiv ((2 ^ (min s k.bits) : Nat) : Int) = ((m / 2 ^ s : Nat) : Int) := by
    rw [Nat.min_eq_left hs, Int.fdiv_eq_ediv_of_nonneg _ (Int.natCast_nonneg _)]; rfl
  simp only [opB, ho, hx, hy, eqOk, binB, h0, Int.toNat_natCast, h1, ret]
theorem bits8 {m : Nat} (hm : m < 256) : bitsB .u8 (m : Int) = m := by
  unfold bitsB
  have : (ileB 0 (m : Int) && ileB (m : Int) (mostB .u8)) = true := by
    rw [Bool.and_eq_true, ileB_iff, ileB_iff]; exact ⟨by omega, by simp [mostB]; omega⟩
  rw [this]; simp
theorem e_and8 {m n : Nat} (ho : o.op = .binOp .and t x y z) (hx : aev a x = some (.int .u8 (m : Int))) (hy : aev a y = some (.int .u8 (n : Int))) (hm : m < 256) (hn : n < 256) : ∀ h, opB P a o h = some (.val (.int .u8 ((m &&& n : Nat) : Int)) h) := by
  intro h
  have hlt : m &&& n < 256 := Nat.and_lt_two_pow (n := 8) m hn
  have hi : inK .u8 ((m &&& n : Nat) : Int) = true := in_u8 (by omega) (by omega)
  simp only [opB, ho, hx, hy, eqOk, binB, if_true, bits8 hm, bits8 hn, wrap_in hi, ret]
theorem e_xor8 {m n : Nat} (ho : o.op = .binOp .xor t x y z) (hx : aev a x = some (.int .u8 (m : Int))) (hy : aev a y = some (.int .u8 (n : Int))) (hm : m < 256) (hn : n < 256) : ∀ h, opB P a o h = some (.val (.int .u8 ((m ^^^ n : Nat) : Int)) h) := by
  intro h
  have hlt : m ^^^ n < 256 := Nat.xor_lt_two_pow (n := 8) hm hn
  have hi : inK .u8 ((m ^^^ n : Nat) : Int) = true := in_u8 (by omega) (by omega)
  simp only [opB, ho, hx, hy, eqOk, binB, if_true, bits8 hm, bits8 hn, wrap_in hi, ret]
theorem e_not8 {m : Nat} (ho : o.op = .unOp .xor t x) (hx : aev a x = some (.int .u8 (m : Int))) (hm : m < 256) : ∀ h, opB P a o h = some (.val (.int .u8 ((255 ^^^ m : Nat) : Int)) h) := by
  intro h
  have hlt : 255 ^^^ m < 256 := Nat.xor_lt_two_pow (n := 8) (by decide) hm
  have hi : inK .u8 ((255 ^^^ m : Nat) : Int) = true := in_u8 (by omega) (by omega)
  have hk : bitsB .u8 (if IntKind.u8.signed = true then -1 else IntKind.u8.max) = 255 := by decide
  simp only [opB, ho, hx, unB, hk, bits8 hm, wrap_in hi, ret]
end Go.Am
namespace Go.Proofs.Yteiiekfccecoiaa.Z
open Go.Am
set_option linter.unusedVariables false
set_option maxRecDepth 20000

/-- The map's rows, ahead of others. -/
abbrev fm (rm rb : Nat) (T : List Bool) (F : RL) : RL := (rm, .cells 75 [.int .i64 (T.length : Nat), .slice (some ⟨rb, 0, none⟩) (pk T).length (pk T).length]) :: (rb, .cells 5 (byteCells (pk T))) :: F
theorem one_is {n k : Nat} : ieqB ((n / 2 ^ k &&& 1 : Nat) : Int) 1 = n.testBit k := by
  rw [ieqB_eq, Nat.testBit_eq_decide_div_mod_eq, Nat.and_one_is_mod]
  by_cases h : n / 2 ^ k % 2 = 1
  · simp [h]
  · have : n / 2 ^ k % 2 = 0 := by omega
    simp [this]
theorem cell_at {D : List UInt8} {j : Nat} (h : j < D.length) : (byteCells D)[0 + j * 1]? = some (.int .u8 ((D[j]'h).toNat : Nat)) := by
  rw [show 0 + j * 1 = j by omega]; exact byteCells_get (List.getElem?_eq_getElem h)

theorem markBytes_ct {L : RL} (n : Nat) (hn : n ≤ 1000000) : CS Try.prog 36 [.int .i64 (n : Nat)] L fun v L' => v = .int .i64 (((n + 7) / 8 : Nat) : Int) ∧ L' = L := by
  refine CS.mk (fn := Try.f36) rfl rfl rfl rfl ?_
  repeat refine LS.seq ?_
  refine LS.region rfl ?_
  refine OS.pure rfl (fun _ => rfl) rfl ?_
  refine OS.nil ?_
  repeat refine LS.seq ?_
  refine LS.region rfl ?_
  refine OS.pure rfl (fun _ => rfl) rfl ?_
  refine OS.pure rfl (e_add (n := 7) rfl rfl rfl (in_i64 (by omega) (by omega))) rfl ?_
  refine OS.pure rfl (e_quo (m := n + 7) (n := 8) rfl rfl rfl (by decide) (in_i64 (by omega) (by omega))) rfl ?_
  refine OS.pure rfl (fun _ => rfl) rfl ?_
  refine OS.nil ?_
  refine LS.ret ⟨_, fun _ _ => rfl, ?_⟩
  exact ⟨rfl, rfl⟩
theorem Len_ct {F : RL} {rm rb : Nat} {T : List Bool} : CS Try.prog 39 [ptr rm] (fm rm rb T F) fun v L' => v = .int .i64 (T.length : Nat) ∧ L' = fm rm rb T F := by
  refine CS.mk (fn := Try.f39) rfl rfl rfl rfl ?_
  repeat refine LS.seq ?_
  refine LS.region rfl ?_
  refine OS.pure rfl (fun _ => rfl) rfl ?_
  refine OS.nil ?_
  repeat refine LS.seq ?_
  refine LS.region rfl ?_
  refine OS.pure rfl (fun _ => rfl) rfl ?_
  refine OS.pure rfl (fun _ => rfl) rfl ?_
  refine OS.nil ?_
  refine LS.cond rfl (fun hc => by cases hc) (fun hc => ?_)
  refine LS.skip ?_
  repeat refine LS.seq ?_
  refine LS.region rfl ?_
  refine OS.pure rfl (fun _ => rfl) rfl ?_
  refine OS.pure rfl (fun _ => rfl) rfl ?_
  refine OS.pure rfl (fun _ => rfl) rfl ?_
  refine OS.read rfl (e_load 0 rfl rfl rfl rfl rfl) rfl ?_
  refine OS.pure rfl (fun _ => rfl) rfl ?_
  refine OS.nil ?_
  refine LS.ret ⟨_, fun _ _ => rfl, ?_⟩
  exact ⟨rfl, rfl⟩
theorem has_ct {F : RL} {rm rb : Nat} {T : List Bool} (i : Int) : CS Try.prog 54 [ptr rm, .int .i64 i] (fm rm rb T F) fun v L' => v = .bool (decide (0 ≤ i ∧ i < T.length)) ∧ L' = fm rm rb T F := by
  refine CS.mk (fn := Try.f54) rfl rfl rfl rfl ?_
  repeat refine LS.seq ?_
  refine LS.region rfl ?_
  refine OS.pure rfl (fun _ => rfl) rfl ?_
  refine OS.nil ?_
  by_cases h : 0 ≤ i
  · have hb : ileB 0 i = true := ileB_iff.2 h
    repeat refine LS.seq ?_
    refine LS.region rfl ?_
    refine OS.pure rfl (fun _ => rfl) rfl ?_
    refine OS.pure rfl (e_is (fun _ => rfl) (congrArg Value.bool hb)) rfl ?_
    refine OS.pure rfl (fun _ => rfl) rfl ?_
    refine OS.pure rfl (fun _ => rfl) rfl ?_
    refine OS.pure rfl (fun _ => rfl) rfl ?_
    refine OS.call noGo rfl (fun _ => rfl) ((Len_ct).mono ?_)
    rintro v L' ⟨rfl, rfl⟩
    refine ⟨_, rfl, ?_⟩
    refine OS.pure rfl (fun _ => rfl) rfl ?_
    refine OS.pure rfl (fun _ => rfl) rfl ?_
    refine OS.pure rfl (fun _ => rfl) rfl ?_
    refine OS.nil ?_
    refine LS.ret ⟨_, fun _ _ => rfl, ?_⟩
    refine ⟨?_, rfl⟩
    rw [ileB_eq]
    simp [h, tupleB]
    rw [Bool.eq_iff_iff]; simp
  · have hb : ileB 0 i = false := by rw [ileB_eq]; simpa using h
    repeat refine LS.seq ?_
    refine LS.region rfl ?_
    refine OS.pure rfl (fun _ => rfl) rfl ?_
    refine OS.pure rfl (e_is (fun _ => rfl) (congrArg Value.bool hb)) rfl ?_
    refine OS.pure rfl (fun _ => rfl) rfl ?_
    refine OS.skip rfl rfl ?_
    refine OS.skip rfl rfl ?_
    refine OS.skip rfl rfl ?_
    refine OS.skip rfl rfl ?_
    refine OS.pure rfl (fun _ => rfl) rfl ?_
    refine OS.pure rfl (fun _ => rfl) rfl ?_
    refine OS.nil ?_
    refine LS.ret ⟨_, fun _ _ => rfl, ?_⟩
    refine ⟨?_, rfl⟩
    simp [h, tupleB]
theorem Taken_ct {F : RL} {rm rb : Nat} {T : List Bool} (hT : T.length ≤ 32768) (i : Int) : CS Try.prog 30 [ptr rm, .int .i64 i] (fm rm rb T F) fun v L' => v = .bool (decide (0 ≤ i ∧ i < T.length) && tkn T i.toNat) ∧ L' = fm rm rb T F := by
  refine CS.mk (fn := Try.f30) rfl rfl rfl rfl ?_
  repeat refine LS.seq ?_
  refine LS.region rfl ?_
  refine OS.pure rfl (fun _ => rfl) rfl ?_
  refine OS.nil ?_
  by_cases h : 0 ≤ i ∧ i < T.length
  · obtain ⟨j, rfl⟩ := Int.eq_ofNat_of_zero_le h.1
    have hj : j < T.length := by omega
    have hjb : j / 8 < (pk T).length := by rw [pk_len]; omega
    have hval : ieqB (((pk T)[j / 8]'hjb).toNat / 2 ^ (j % 8) &&& 1 : Nat) 1 = tkn T j := by
      rw [one_is, ← pk_bit T j]
      unfold bit tb
      rw [List.getElem?_eq_getElem hjb]; rfl
    repeat refine LS.seq ?_
    refine LS.region rfl ?_
    refine OS.pure rfl (fun _ => rfl) rfl ?_
    refine OS.pure rfl (fun _ => rfl) rfl ?_
    refine OS.call noGo rfl (fun _ => rfl) ((has_ct (j : Nat)).mono ?_)
    rintro v L' ⟨rfl, rfl⟩
    rw [decide_eq_true h]
    refine ⟨_, rfl, ?_⟩
    refine OS.pure rfl (fun _ => rfl) rfl ?_
    refine OS.pure rfl (fun _ => rfl) rfl ?_
    refine OS.pure rfl (fun _ => rfl) rfl ?_
    refine OS.pure rfl (fun _ => rfl) rfl ?_
    refine OS.read rfl (e_load 0 rfl rfl rfl rfl rfl) rfl ?_
    refine OS.pure rfl (fun _ => rfl) rfl ?_
    refine OS.pure rfl (e_quo (m := j) (n := 8) rfl rfl rfl (by decide) (in_i64 (by omega) (by omega))) rfl ?_
    refine OS.pure rfl (e_index (j := j / 8) (sz := 1) rfl rfl rfl rfl rfl hjb) rfl ?_
    refine OS.read rfl (e_load 1 rfl rfl rfl rfl (part_one rfl (cell_at hjb))) rfl ?_
    refine OS.pure rfl (fun _ => rfl) rfl ?_
    refine OS.pure rfl (e_rem (m := j) (n := 8) rfl rfl rfl (by decide)) rfl ?_
    refine OS.pure rfl (e_shr (k := .u8) (s := j % 8) rfl rfl rfl (by have : IntKind.u8.bits = 8 := rfl; omega)) rfl ?_
    refine OS.pure rfl (e_and8 (n := 1) rfl rfl rfl (Nat.lt_of_le_of_lt (Nat.div_le_self _ _) (UInt8.toNat_lt _)) (by decide)) rfl ?_
    refine OS.pure rfl (e_is (fun _ => rfl) (congrArg Value.bool hval)) rfl ?_
    refine OS.pure rfl (fun _ => rfl) rfl ?_
    refine OS.pure rfl (fun _ => rfl) rfl ?_
    refine OS.nil ?_
    refine LS.ret ⟨_, fun _ _ => rfl, ?_⟩
    exact ⟨by simp [tupleB], rfl⟩
  · repeat refine LS.seq ?_
    refine LS.region rfl ?_
    refine OS.pure rfl (fun _ => rfl) rfl ?_
    refine OS.pure rfl (fun _ => rfl) rfl ?_
    refine OS.call noGo rfl (fun _ => rfl) ((has_ct i).mono ?_)
    rintro v L' ⟨rfl, rfl⟩
    rw [decide_eq_false h]
    refine ⟨_, rfl, ?_⟩
    refine OS.pure rfl (fun _ => rfl) rfl ?_
    refine OS.skip rfl rfl ?_
    refine OS.skip rfl rfl ?_
    refine OS.skip rfl rfl ?_
    refine OS.skip rfl rfl ?_
    refine OS.skip rfl rfl ?_
    refine OS.skip rfl rfl ?_
    refine OS.skip rfl rfl ?_
    refine OS.skip rfl rfl ?_
    refine OS.skip rfl rfl ?_
    refine OS.skip rfl rfl ?_
    refine OS.skip rfl rfl ?_
    refine OS.skip rfl rfl ?_
    refine OS.skip rfl rfl ?_
    refine OS.pure rfl (fun _ => rfl) rfl ?_
    refine OS.pure rfl (fun _ => rfl) rfl ?_
    refine OS.nil ?_
    refine LS.ret ⟨_, fun _ _ => rfl, ?_⟩
    exact ⟨by simp [tupleB], rfl⟩
theorem lay_u8 {cs : List UInt8} {j : Nat} (c : UInt8) (hj : j < cs.length) : lay (byteCells cs) (0 + j * 1) [.int .u8 (c.toNat : Nat)] = some (byteCells (cs.set j c)) := by
  rw [show 0 + j * 1 = j by omega, lay_one (by rw [byteCells_len]; exact hj)]
  simp [byteCells, List.map_set]
theorem flip_ct {F : RL} {rm rb : Nat} {T : List Bool} {i : Nat} (hT : T.length ≤ 32768) (hi : i < T.length) : CS Try.prog 78 [ptr rm, .int .i64 (i : Nat)] (fm rm rb T F) fun v L' => L' = fm rm rb (T.set i (!tkn T i)) F := by
  have hib : i / 8 < (pk T).length := by rw [pk_len]; omega
  have hflip : flipD (pk T) i = pk (T.set i (!tkn T i)) := ((pk_rep hT).flip hi).pk
  have hx : (pk T)[i / 8].toNat ^^^ 1 * 2 ^ (i % 8) = (UInt8.ofNat ((pk T)[i / 8].toNat ^^^ 2 ^ (i % 8))).toNat := by rw [toNat_of (xor_lt (by omega)), Nat.one_mul]
  have h2 : 1 * 2 ^ (i % 8) < 256 := by
    have : 2 ^ (i % 8) < 2 ^ 8 := Nat.pow_lt_pow_right (by omega) (by omega)
    omega
  refine CS.mk (fn := Try.f78) rfl rfl rfl rfl ?_
  repeat refine LS.seq ?_
  refine LS.drawn noGo mixed [(0, false), (1, false), (2, false), (3, false), (4, false), (5, false), (6, false), (7, false), (8, false), (9, false), (10, false), (11, false), (12, false), (13, true)] rfl rfl (by kernel_rfl) ?_
  refine ODS.pure rfl rfl (fun _ => rfl) rfl ?_
  refine ODS.pure rfl rfl (fun _ => rfl) rfl ?_
  refine ODS.pure rfl rfl (fun _ => rfl) rfl ?_
  refine ODS.read rfl rfl (e_load 0 rfl rfl rfl rfl rfl) rfl ?_
  refine ODS.pure rfl rfl (fun _ => rfl) rfl ?_
  refine ODS.pure rfl rfl (e_quo (m := i) (n := 8) rfl rfl rfl (by decide) (in_i64 (by omega) (by omega))) rfl ?_
  refine ODS.pure rfl rfl (e_index (j := i / 8) (sz := 1) rfl rfl rfl rfl rfl hib) rfl ?_
  refine ODS.read rfl rfl (e_load 1 rfl rfl rfl rfl (part_one rfl (cell_at hib))) rfl ?_
  refine ODS.pure rfl rfl (fun _ => rfl) rfl ?_
  refine ODS.pure rfl rfl (e_rem (m := i) (n := 8) rfl rfl rfl (by decide)) rfl ?_
  refine ODS.pure rfl rfl (e_shl (m := 1) (s := i % 8) (k := .u8) rfl rfl rfl (by have : IntKind.u8.bits = 8 := rfl; omega) (in_u8 (by omega) (by omega))) rfl ?_
  refine ODS.pure rfl rfl (e_xor8 (m := (pk T)[i / 8].toNat) rfl rfl rfl (UInt8.toNat_lt _) h2) rfl ?_
  rw [hx]
  refine ODS.pure rfl rfl (e_index (j := i / 8) (sz := 1) rfl rfl rfl rfl rfl hib) rfl ?_
  refine ODS.write rfl rfl (e_store 1 (n := 1) rfl rfl rfl rfl rfl rfl (lay_u8 _ hib) rfl) rfl (Keep.gone rfl (Keep.gone rfl Keep.nil)) ?_
  refine ODS.nil ?_
  have hgd : (pk T)[i / 8]?.getD 0 = (pk T)[i / 8] := by rw [List.getElem?_eq_getElem hib]; rfl
  unfold flipD at hflip
  rw [hgd] at hflip
  refine ⟨_, fun _ _ => rfl, ?_⟩
  rw [hflip]
  have : (pk (T.set i (!tkn T i))).length = (pk T).length := by rw [pk_len, pk_len, List.length_set]
  simp only [fm, List.length_set, this]
end Go.Proofs.Yteiiekfccecoiaa.Z
