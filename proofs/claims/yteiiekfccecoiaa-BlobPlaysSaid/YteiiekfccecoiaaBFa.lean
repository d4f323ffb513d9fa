/- Layer 5: bits and bytes, pure. -/
import Derived.Test.YteiiekfccecoiaaBg
import Derived.Test.YteiiekfccecoiaaDa
namespace Go.Proofs.Yteiiekfccecoiaa.Z
open Go.Am
set_option linter.unusedVariables false
set_option maxRecDepth 20000

/-- A byte's bit. -/
def tb (c : UInt8) (k : Nat) : Bool := c.toNat.testBit k
def bit (D : List UInt8) (i : Nat) : Bool := tb (D[i / 8]?.getD 0) (i % 8)
/-- Is the block i taken? -/
def tkn (T : List Bool) (i : Nat) : Bool := T[i]?.getD false
/-- These bytes are the map's marks. -/
structure Rep (D : List UInt8) (T : List Bool) : Prop where
  len : D.length = (T.length + 7) / 8
  le : T.length ≤ 32768
  same : ∀ i, bit D i = tkn T i

theorem tb_big {c : UInt8} {k : Nat} (h : 8 ≤ k) : tb c k = false := by
  unfold tb
  refine Nat.testBit_lt_two_pow (Nat.lt_of_lt_of_le (UInt8.toNat_lt c) ?_)
  calc 256 = 2 ^ 8 := rfl
    _ ≤ 2 ^ k := Nat.pow_le_pow_right (by omega) h
theorem tb_zero (k : Nat) : tb 0 k = false := by unfold tb; simp
theorem byte_ext {c d : UInt8} (h : ∀ k, k < 8 → tb c k = tb d k) : c = d := by
  refine UInt8.toNat_inj.1 (Nat.eq_of_testBit_eq fun k => ?_)
  by_cases hk : k < 8
  · exact h k hk
  · have h1 := tb_big (c := c) (k := k) (by omega)
    have h2 := tb_big (c := d) (k := k) (by omega)
    unfold tb at h1 h2
    rw [h1, h2]
theorem bit_out {D : List UInt8} {i : Nat} (h : D.length ≤ i / 8) : bit D i = false := by
  unfold bit; rw [List.getElem?_eq_none h]; exact tb_zero _
theorem bit_at (D : List UInt8) (j k : Nat) (hk : k < 8) : bit D (8 * j + k) = tb (D[j]?.getD 0) k := by
  unfold bit
  rw [show (8 * j + k) / 8 = j by omega, show (8 * j + k) % 8 = k by omega]
theorem bytes_ext {D E : List UInt8} (hl : D.length = E.length) (h : ∀ i, bit D i = bit E i) : D = E := by
  apply List.ext_getElem hl
  intro j h1 h2
  refine byte_ext fun k hk => ?_
  have := h (8 * j + k)
  rw [bit_at _ _ _ hk, bit_at _ _ _ hk, List.getElem?_eq_getElem h1, List.getElem?_eq_getElem h2] at this
  simpa using this
theorem Rep.uniq {D E : List UInt8} {T : List Bool} (h : Rep D T) (g : Rep E T) : D = E := bytes_ext (h.len.trans g.len.symm) fun i => (h.same i).trans (g.same i).symm
theorem list_ext {T U : List Bool} (hl : T.length = U.length) (h : ∀ i, tkn T i = tkn U i) : T = U := by
  apply List.ext_getElem hl
  intro j h1 h2
  have := h j
  unfold tkn at this
  rw [List.getElem?_eq_getElem h1, List.getElem?_eq_getElem h2] at this
  simpa using this

theorem tkn_out {T : List Bool} {i : Nat} (h : T.length ≤ i) : tkn T i = false := by unfold tkn; rw [List.getElem?_eq_none h]; rfl
theorem tkn_in {T : List Bool} {i : Nat} (h : i < T.length) : T[i]? = some (tkn T i) := by unfold tkn; rw [List.getElem?_eq_getElem h]; rfl
theorem tkn_set {T : List Bool} {i : Nat} {b : Bool} (h : i < T.length) (j : Nat) : tkn (T.set i b) j = if j = i then b else tkn T j := by
  unfold tkn
  rw [List.getElem?_set]
  by_cases hij : i = j
  · subst hij; rw [if_pos rfl, if_pos h, if_pos rfl]; rfl
  · rw [if_neg hij, if_neg (fun e => hij e.symm)]
theorem tkn_zeros (n i : Nat) : tkn (List.replicate n false) i = false := by
  unfold tkn
  rw [List.getElem?_replicate]
  split <;> rfl

/-- One bit is turned. -/
def flipD (D : List UInt8) (i : Nat) : List UInt8 := D.set (i / 8) (UInt8.ofNat ((D[i / 8]?.getD 0).toNat ^^^ 2 ^ (i % 8)))
theorem xor_lt {c : UInt8} {k : Nat} (hk : k < 8) : c.toNat ^^^ 2 ^ k < 256 := by
  have h1 : 2 ^ k < 2 ^ 8 := Nat.pow_lt_pow_right (by omega) hk
  exact Nat.xor_lt_two_pow (n := 8) (UInt8.toNat_lt c) h1
theorem tb_flip {c : UInt8} {k j : Nat} (hk : k < 8) : tb (UInt8.ofNat (c.toNat ^^^ 2 ^ k)) j = if j = k then !tb c j else tb c j := by
  unfold tb
  rw [toNat_of (xor_lt hk), Nat.testBit_xor, Nat.testBit_two_pow]
  by_cases h : j = k
  · subst h; simp
  · rw [if_neg h]
    have : ¬ k = j := fun e => h e.symm
    simp [this]
theorem bit_flip {D : List UInt8} {i : Nat} (h : i / 8 < D.length) (j : Nat) : bit (flipD D i) j = if j = i then !bit D j else bit D j := by
  unfold bit flipD
  rw [List.getElem?_set]
  by_cases hb : i / 8 = j / 8
  · rw [if_pos hb, if_pos h, Option.getD_some, tb_flip (by omega), hb]
    by_cases hj : j = i
    · subst hj; rw [if_pos rfl, if_pos rfl]
    · rw [if_neg (by omega), if_neg hj]
  · rw [if_neg hb, if_neg (by intro e; subst e; exact hb rfl)]
theorem Rep.flip {D : List UInt8} {T : List Bool} {i : Nat} (h : Rep D T) (hi : i < T.length) : Rep (flipD D i) (T.set i (!tkn T i)) := by
  refine ⟨by unfold flipD; rw [List.length_set, List.length_set]; exact h.len, by rw [List.length_set]; exact h.le, fun j => ?_⟩
  rw [bit_flip (by have := h.len; omega), tkn_set hi, h.same]
  by_cases hj : j = i
  · subst hj; simp
  · rw [if_neg hj, if_neg hj]
theorem Rep.zeros {n : Nat} (h : n ≤ 32768) : Rep (List.replicate ((n + 7) / 8) 0) (List.replicate n false) := by
  refine ⟨by simp, by simpa using h, fun i => ?_⟩
  rw [tkn_zeros]
  unfold bit
  rw [List.getElem?_replicate]
  split <;> exact tb_zero _

/-! ### How many; the first one -/
/-- The first block that is not taken, if there is one; else how many there are. -/
def ff (T : List Bool) : Nat := T.findIdx (fun b => !b)
theorem ff_is {T : List Bool} {m : Nat} (h1 : ∀ i, i < m → tkn T i = true) (h2 : tkn T m = false) : ff T = m := by
  have hm : m ≤ T.length := by
    rcases Nat.lt_or_ge T.length m with h | h
    · have := h1 T.length h
      rw [tkn_out (Nat.le_refl _)] at this; cases this
    · exact h
  unfold ff
  rcases Nat.lt_or_ge m T.length with h | h
  · rw [List.findIdx_eq h]
    have h2' := tkn_in h
    rw [h2, List.getElem?_eq_getElem h] at h2'
    refine ⟨by simpa using h2', fun j hj => ?_⟩
    have h1' := tkn_in (T := T) (i := j) (by omega)
    rw [h1 j hj, List.getElem?_eq_getElem (by omega)] at h1'
    simpa using h1'
  · have : m = T.length := by omega
    subst this
    rw [List.findIdx_eq_length]
    intro x hx
    obtain ⟨i, hi, rfl⟩ := List.mem_iff_getElem.1 hx
    have h1' := tkn_in hi
    rw [h1 i hi, List.getElem?_eq_getElem hi] at h1'
    simpa using h1'
theorem ff_le (T : List Bool) : ff T ≤ T.length := List.findIdx_le_length
theorem ff_ahead {T : List Bool} {i : Nat} (h : i < ff T) : tkn T i = true := by
  have hl : i < T.length := Nat.lt_of_lt_of_le h (ff_le T)
  have := List.not_of_lt_findIdx (p := fun b => !b) (xs := T) h
  have h2 := tkn_in hl
  rw [List.getElem?_eq_getElem hl] at h2
  simp only [Option.some.injEq] at h2
  rw [← h2]; simpa using this
theorem ff_here {T : List Bool} (h : ff T < T.length) : tkn T (ff T) = false := by
  have := List.findIdx_getElem (p := fun b => !b) (xs := T) (w := h)
  have h2 := tkn_in h
  rw [List.getElem?_eq_getElem h] at h2
  simp only [Option.some.injEq] at h2
  rw [← h2]
  have this : T[List.findIdx (fun b => !b) T]'h = false := by simpa using this
  exact this

/-- How many are free. -/
def frees (T : List Bool) : Nat := T.countP (fun b => !b)
/-- The blocks that are taken, rising. -/
def lst' (T : List Bool) : List Nat := (List.range T.length).filter (tkn T)
/-- Up to there. -/
def lstTo (T : List Bool) (k : Nat) : List Nat := (List.range k).filter (tkn T)
theorem lstTo_succ (T : List Bool) (k : Nat) : lstTo T (k + 1) = if tkn T k then lstTo T k ++ [k] else lstTo T k := by
  unfold lstTo
  rw [List.range_succ, List.filter_append]
  cases h : tkn T k <;> simp [List.filter, h]
theorem lstTo_len (T : List Bool) (k : Nat) : (lstTo T k).length ≤ k := by
  unfold lstTo
  exact Nat.le_trans (List.length_filter_le _ _) (by simp)
theorem range_map (T : List Bool) : (List.range T.length).map (tkn T) = T := by
  apply List.ext_getElem?
  intro i
  rw [List.getElem?_map]
  by_cases h : i < T.length
  · rw [List.getElem?_range h, tkn_in h]; rfl
  · rw [List.getElem?_eq_none (by simpa using h), List.getElem?_eq_none (by omega)]; rfl
theorem frees_eq (T : List Bool) : frees T = (List.range T.length).countP (fun i => !tkn T i) := by
  unfold frees
  conv => lhs; rw [← range_map T]
  rw [List.countP_map]; rfl
theorem list_and_free (T : List Bool) : (lst' T).length + frees T = T.length := by
  have h1 : (lst' T).length = (List.range T.length).countP (tkn T) := by unfold lst'; rw [List.countP_eq_length_filter]
  have h2 := List.length_eq_countP_add_countP (p := tkn T) (l := List.range T.length)
  rw [List.length_range] at h2
  rw [h1, frees_eq]
  refine Eq.trans ?_ h2.symm
  congr 1
  refine List.countP_congr fun x _ => ?_
  simp
/-- How many of the first k are free. -/
def freeTo (T : List Bool) (k : Nat) : Nat := (List.range k).countP (fun i => !tkn T i)
theorem freeTo_succ (T : List Bool) (k : Nat) : freeTo T (k + 1) = freeTo T k + if tkn T k then 0 else 1 := by
  unfold freeTo
  rw [List.range_succ, List.countP_append]
  cases h : tkn T k <;> simp [h]
theorem freeTo_le (T : List Bool) (k : Nat) : freeTo T k ≤ k := by
  unfold freeTo
  exact Nat.le_trans List.countP_le_length (by simp)

/-- How many bits a byte has set; its first one that is not. -/
def pc (c : UInt8) : Nat := (List.range 8).countP (tb c)
def fz (c : UInt8) : Nat := (List.range 8).findIdx (fun k => !tb c k)
theorem pc_le (c : UInt8) : pc c ≤ 8 := by
  unfold pc
  exact Nat.le_trans List.countP_le_length (by simp)
/-- How many of the marks' first bytes are set. -/
def onesTo (D : List UInt8) (j : Nat) : Nat := (List.range (8 * j)).countP (bit D)
theorem onesTo_succ {D : List UInt8} {j : Nat} {c : UInt8} (h : D[j]? = some c) : onesTo D (j + 1) = onesTo D j + pc c := by
  unfold onesTo pc
  rw [show 8 * (j + 1) = 8 * j + 8 by omega, List.range_add, List.countP_append, List.countP_map]
  congr 1
  refine List.countP_congr fun k hk => ?_
  have hk : k < 8 := by simpa using hk
  show bit D (8 * j + k) = true ↔ _
  rw [bit_at _ _ _ hk, h]; rfl
theorem onesTo_all {D : List UInt8} {T : List Bool} (h : Rep D T) : onesTo D D.length + frees T = T.length := by
  have e : onesTo D D.length = (List.range T.length).countP (tkn T) := by
    unfold onesTo
    have hl : 8 * D.length = T.length + (8 * D.length - T.length) := by have := h.len; omega
    rw [hl, List.range_add, List.countP_append]
    have : List.countP (bit D) (List.map (fun x => T.length + x) (List.range (8 * D.length - T.length))) = 0 := by
      rw [List.countP_eq_zero]
      intro x hx
      obtain ⟨y, _, rfl⟩ := List.mem_map.1 hx
      rw [h.same, tkn_out (by omega)]; simp
    rw [this, Nat.add_zero]
    exact List.countP_congr fun x _ => by rw [h.same]
  have h1 : (lst' T).length = (List.range T.length).countP (tkn T) := by unfold lst'; rw [List.countP_eq_length_filter]
  rw [e, ← h1]
  exact list_and_free T
theorem onesTo_le (D : List UInt8) (j : Nat) : onesTo D j ≤ 8 * j := by
  unfold onesTo
  exact Nat.le_trans List.countP_le_length (by simp)

/-! ### A byte, summed up -/
/-- The first k bits, as a number. -/
def upTo (f : Nat → Bool) : Nat → Nat
  | 0 => 0
  | k + 1 => upTo f k + if f k then 2 ^ k else 0
theorem upTo_lt (f : Nat → Bool) : ∀ k, upTo f k < 2 ^ k
  | 0 => by simp [upTo]
  | k + 1 => by
    have := upTo_lt f k
    simp only [upTo, Nat.pow_succ]
    split <;> omega
theorem upTo_bit (f : Nat → Bool) : ∀ k j, (upTo f k).testBit j = (decide (j < k) && f j)
  | 0, j => by simp [upTo]
  | k + 1, j => by
    have hlt := upTo_lt f k
    simp only [upTo]
    by_cases hf : f k = true
    · rw [if_pos hf, Nat.add_comm, show 2 ^ k + upTo f k = 2 ^ k * 1 + upTo f k by rw [Nat.mul_one], Nat.two_pow_add_eq_or_of_lt hlt, Nat.mul_one, Nat.testBit_or, Nat.testBit_two_pow, upTo_bit f k j]
      by_cases hj : k = j
      · subst hj; simp [hf]
      · simp [hj]
        by_cases h2 : j < k
        · simp [h2, show j < k + 1 by omega]
        · simp [h2, show ¬ j < k + 1 by omega]
    · rw [if_neg hf, Nat.add_zero, upTo_bit f k j]
      by_cases hj : k = j
      · subst hj; simp [show f k = false by simpa using hf]
      · by_cases h2 : j < k
        · simp [h2, show j < k + 1 by omega]
        · simp [h2, show ¬ j < k + 1 by omega]
/-- The marks' byte j. -/
def byteOf (T : List Bool) (j : Nat) : UInt8 := UInt8.ofNat (upTo (fun k => tkn T (8 * j + k)) 8)
theorem byteOf_bit {T : List Bool} {j k : Nat} (hk : k < 8) : tb (byteOf T j) k = tkn T (8 * j + k) := by
  unfold tb byteOf
  rw [toNat_of (upTo_lt _ 8), upTo_bit]
  simp [hk]
theorem Rep.byte {D : List UInt8} {T : List Bool} (h : Rep D T) {j : Nat} (hj : j < D.length) : D[j]? = some (byteOf T j) := by
  rw [List.getElem?_eq_getElem hj]
  congr 1
  refine byte_ext fun k hk => ?_
  rw [byteOf_bit hk, ← h.same, bit_at _ _ _ hk, List.getElem?_eq_getElem hj]; rfl
/-- The marks. -/
def pk (T : List Bool) : List UInt8 := (List.range ((T.length + 7) / 8)).map (byteOf T)
theorem pk_len (T : List Bool) : (pk T).length = (T.length + 7) / 8 := by simp [pk]
theorem pk_bit (T : List Bool) (i : Nat) : bit (pk T) i = tkn T i := by
  by_cases h : i / 8 < (T.length + 7) / 8
  · have := bit_at (pk T) (i / 8) (i % 8) (by omega)
    rw [show 8 * (i / 8) + i % 8 = i by omega] at this
    rw [this]
    simp only [pk, List.getElem?_map, List.getElem?_range h, Option.map_some, Option.getD_some]
    rw [byteOf_bit (by omega), show 8 * (i / 8) + i % 8 = i by omega]
  · rw [bit_out (by rw [pk_len]; omega), tkn_out (by omega)]
theorem pk_rep {T : List Bool} (h : T.length ≤ 32768) : Rep (pk T) T := ⟨pk_len T, h, pk_bit T⟩
theorem Rep.pk {D : List UInt8} {T : List Bool} (h : Rep D T) : D = pk T := h.uniq (pk_rep h.le)
end Go.Proofs.Yteiiekfccecoiaa.Z
