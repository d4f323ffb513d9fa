/- Plain mathematics of layer 1: the groups of a number, and the number that stands for a signed one. -/
namespace Go.Proofs.Yteiiekfccecoiaa

/-- The groups of u, the lowest first. -/
def grp (u : Nat) : List UInt8 := if u < 128 then [UInt8.ofNat u] else UInt8.ofNat (u % 128 + 128) :: grp (u / 128)
termination_by u
decreasing_by omega

theorem grp_lt {u : Nat} (h : u < 128) : grp u = [UInt8.ofNat u] := by rw [grp, if_pos h]
theorem grp_ge {u : Nat} (h : 128 ≤ u) : grp u = UInt8.ofNat (u % 128 + 128) :: grp (u / 128) := by rw [grp, if_neg (by omega)]
theorem grp_pos (u : Nat) : 0 < (grp u).length := by
  by_cases h : u < 128
  · rw [grp_lt h]; simp
  · rw [grp_ge (by omega)]; simp
theorem grp_ne (u : Nat) : grp u ≠ [] := fun h => by have := grp_pos u; rw [h] at this; simp at this

theorem toNat_of {n : Nat} (h : n < 256) : (UInt8.ofNat n).toNat = n := by simp; omega

/-- u < 128^k: no more than k groups. -/
theorem grp_len {k u : Nat} (hk : 0 < k) (h : u < 128 ^ k) : (grp u).length ≤ k := by
  induction k generalizing u with
  | zero => omega
  | succ k ih =>
    by_cases hu : u < 128
    · rw [grp_lt hu]; simp
    · rw [grp_ge (by omega)]
      have hk0 : 0 < k := by
        rcases Nat.eq_zero_or_pos k with h0 | h0
        · subst h0; simp at h; omega
        · exact h0
      have : u / 128 < 128 ^ k := by rw [Nat.div_lt_iff_lt_mul (by omega)]; rw [Nat.pow_succ] at h; exact h
      have := ih hk0 this
      simp; omega

/-- What stands for a number, as a number from 0 on. -/
def zig (n : Int) : Nat := if n < 0 then (2 * (-n) - 1).toNat else (2 * n).toNat
theorem zig_neg {n : Int} (h : n < 0) : (zig n : Int) = 2 * (-n) - 1 := by unfold zig; rw [if_pos h]; omega
theorem zig_pos {n : Int} (h : 0 ≤ n) : (zig n : Int) = 2 * n := by unfold zig; rw [if_neg (by omega)]; omega
theorem zig_lt {n : Int} (h0 : -9223372036854775808 ≤ n) (h1 : n ≤ 9223372036854775807) : zig n < 18446744073709551616 := by unfold zig; split <;> omega

/-- The number whose groups stand at the head of a list, and how many they are: u what came of the i groups ahead. (0, 0): none. -/
def gGo (i u : Nat) : List UInt8 → Nat × Nat
  | [] => (0, 0)
  | c :: r =>
    if i = 9 ∧ 1 < c.toNat then (0, 0)
    else if 128 ≤ c.toNat then gGo (i + 1) (u + c.toNat % 128 * 128 ^ i) r
    else if c.toNat = 0 ∧ 0 < i then (0, 0)
    else (u + c.toNat % 128 * 128 ^ i, i + 1)
def gat (bs : List UInt8) : Nat × Nat := gGo 0 0 bs

theorem pow9 : (128 : Nat) ^ 9 = 9223372036854775808 := by decide

theorem gGo_some (bs : List UInt8) : ∀ i u m, i ≤ 9 → u < 128 ^ i → m * 128 ^ i + u < 18446744073709551616 → grp m <+: bs → (i = 0 ∨ m ≠ 0) → gGo i u bs = (m * 128 ^ i + u, i + (grp m).length) := by
  induction bs with
  | nil =>
    intro i u m _ _ _ hp _
    exact absurd (List.prefix_nil.1 hp) (grp_ne m)
  | cons c r ih =>
    intro i u m hi hu hm hp h0
    by_cases hlt : m < 128
    · rw [grp_lt hlt] at hp ⊢
      have hc : c = UInt8.ofNat m := (List.cons_prefix_cons.1 hp).1.symm
      have hn : c.toNat = m := by rw [hc, toNat_of (by omega)]
      unfold gGo
      rw [hn, if_neg, if_neg (by omega), if_neg (by omega), Nat.mod_eq_of_lt hlt]
      · simp [Nat.add_comm]
      · rintro ⟨rfl, h⟩
        rw [pow9] at hm
        omega
    · rw [grp_ge (by omega)] at hp ⊢
      obtain ⟨hc, hp'⟩ := List.cons_prefix_cons.1 hp
      have hn : c.toNat = m % 128 + 128 := by rw [← hc, toNat_of (by omega)]
      have hi9 : i ≠ 9 := by
        rintro rfl
        rw [pow9] at hm
        omega
      have e : c.toNat % 128 = m % 128 := by omega
      have hpow : 128 ^ (i + 1) = 128 ^ i * 128 := Nat.pow_succ ..
      have key : m / 128 * 128 ^ (i + 1) + (u + m % 128 * 128 ^ i) = m * 128 ^ i + u := by
        rw [hpow]
        have h1 : m / 128 * (128 ^ i * 128) = (m / 128 * 128) * 128 ^ i := by rw [Nat.mul_comm (128 ^ i) 128, Nat.mul_assoc]
        rw [h1]
        have h2 : (m / 128 * 128) * 128 ^ i + m % 128 * 128 ^ i = m * 128 ^ i := by rw [← Nat.add_mul]; congr 1; omega
        omega
      have hu' : u + m % 128 * 128 ^ i < 128 ^ (i + 1) := by
        rw [hpow]
        have : m % 128 * 128 ^ i ≤ 127 * 128 ^ i := Nat.mul_le_mul_right _ (by omega)
        omega
      unfold gGo
      rw [if_neg (by omega), if_pos (by omega), e, ih (i + 1) _ (m / 128) (by omega) hu' (by rw [key]; exact hm) hp' (.inr (by omega)), key]
      simp; omega

theorem gGo_inv (bs : List UInt8) : ∀ i u, i ≤ 9 → u < 128 ^ i → gGo i u bs = (0, 0) ∨
    ∃ m, grp m <+: bs ∧ gGo i u bs = (m * 128 ^ i + u, i + (grp m).length) ∧ m * 128 ^ i + u < 18446744073709551616 ∧ (i = 0 ∨ m ≠ 0) := by
  induction bs with
  | nil => intro i u _ _; exact .inl rfl
  | cons c r ih =>
    intro i u hi hu
    have hcb := c.toNat_lt
    unfold gGo
    by_cases h1 : i = 9 ∧ 1 < c.toNat
    · rw [if_pos h1]; exact .inl rfl
    rw [if_neg h1]
    have hpow : 128 ^ (i + 1) = 128 ^ i * 128 := Nat.pow_succ ..
    have hmul : c.toNat % 128 * 128 ^ i ≤ 127 * 128 ^ i := Nat.mul_le_mul_right _ (by omega)
    have hp9 : 128 ^ i ≤ 128 ^ 9 := Nat.pow_le_pow_right (by omega) hi
    by_cases h2 : 128 ≤ c.toNat
    · rw [if_pos h2]
      have hi9 : i ≠ 9 := by omega
      rcases ih (i + 1) (u + c.toNat % 128 * 128 ^ i) (by omega) (by rw [hpow]; omega) with h | ⟨m, hp, he, hlt, hm⟩
      · exact .inl h
      · right
        have hm0 : m ≠ 0 := by omega
        have hg : grp (m * 128 + c.toNat % 128) = c :: grp m := by
          rw [grp_ge (by omega)]
          congr 1
          · apply UInt8.toNat_inj.1
            rw [toNat_of (by omega)]
            omega
          · congr 1; omega
        have key : (m * 128 + c.toNat % 128) * 128 ^ i + u = m * 128 ^ (i + 1) + (u + c.toNat % 128 * 128 ^ i) := by
          rw [hpow, Nat.add_mul, Nat.mul_assoc, Nat.mul_comm 128 (128 ^ i)]
          omega
        refine ⟨m * 128 + c.toNat % 128, ?_, ?_, by rw [key]; exact hlt, .inr (by omega)⟩
        · rw [hg]; exact List.cons_prefix_cons.2 ⟨rfl, hp⟩
        · rw [he, key, hg]; simp; omega
    · rw [if_neg h2]
      by_cases h3 : c.toNat = 0 ∧ 0 < i
      · rw [if_pos h3]; exact .inl rfl
      · rw [if_neg h3]
        right
        refine ⟨c.toNat, ?_, ?_, ?_, by omega⟩
        · rw [grp_lt (by omega)]
          refine List.cons_prefix_cons.2 ⟨?_, List.nil_prefix⟩
          apply UInt8.toNat_inj.1
          rw [toNat_of (by omega)]
        · rw [grp_lt (by omega), Nat.mod_eq_of_lt (by omega)]; simp [Nat.add_comm]
        · rw [pow9] at hp9
          by_cases hi9 : i = 9
          · subst hi9
            rw [pow9] at *
            have : c.toNat * 9223372036854775808 ≤ 1 * 9223372036854775808 := Nat.mul_le_mul_right _ (by omega)
            omega
          · have h8 : 128 ^ i ≤ 128 ^ 8 := Nat.pow_le_pow_right (by omega) (by omega)
            have : c.toNat * 128 ^ i ≤ 127 * 128 ^ 8 := Nat.mul_le_mul (by omega) h8
            have e8 : (128 : Nat) ^ 8 = 72057594037927936 := by decide
            rw [e8] at this h8
            omega

/-- The groups that stand at the head are found. -/
theorem gat_some {bs : List UInt8} {u : Nat} (hu : u < 18446744073709551616) (hp : grp u <+: bs) : gat bs = (u, (grp u).length) := by
  have := gGo_some bs 0 0 u (by omega) (by simp) (by simpa using hu) hp (.inl rfl)
  simpa [gat] using this
theorem gat_inv (bs : List UInt8) : gat bs = (0, 0) ∨ ∃ u, grp u <+: bs ∧ gat bs = (u, (grp u).length) ∧ u < 18446744073709551616 := by
  rcases gGo_inv bs 0 0 (by omega) (by simp) with h | ⟨m, hp, he, hlt, _⟩
  · exact .inl h
  · exact .inr ⟨m, hp, by simpa [gat] using he, by simpa using hlt⟩

/-- The number that u stands for. -/
def unz (u : Nat) : Int := if u % 2 = 1 then -1 - (u / 2 : Nat) else (u / 2 : Nat)
theorem unz_zig (n : Int) : unz (zig n) = n := by
  by_cases h : n < 0
  · have e := zig_neg h
    unfold unz
    rw [if_pos (by omega)]; omega
  · have e := zig_pos (n := n) (by omega)
    unfold unz
    rw [if_neg (by omega)]; omega
theorem zig_unz (u : Nat) : zig (unz u) = u := by
  unfold unz
  split
  · have e := zig_neg (n := -1 - ((u / 2 : Nat) : Int)) (by omega); omega
  · have e := zig_pos (n := ((u / 2 : Nat) : Int)) (by omega); omega
theorem unz_bd {u : Nat} (h : u < 18446744073709551616) : -9223372036854775808 ≤ unz u ∧ unz u ≤ 9223372036854775807 := by unfold unz; split <;> omega
theorem gat_lt (bs : List UInt8) : (gat bs).1 < 18446744073709551616 := by
  rcases gat_inv bs with h | ⟨u, _, h, hl⟩
  · rw [h]; decide
  · rw [h]; exact hl
theorem gat_len (bs : List UInt8) : (gat bs).2 ≤ bs.length := by
  rcases gat_inv bs with h | ⟨u, hp, h, hl⟩
  · rw [h]; simp
  · rw [h]; exact hp.length_le
theorem gat_small (bs : List UInt8) : (gat bs).2 ≤ 10 := by
  rcases gat_inv bs with h | ⟨u, hp, h, hl⟩
  · rw [h]; simp
  · rw [h]; exact grp_len (by omega) (by omega)

/-- The count of most at most that stands at the head, and how many bytes it has; (0, 0): none. -/
def cAt (bs : List UInt8) (most : Int) : Nat × Nat := if 0 ≤ most ∧ ((gat bs).1 : Int) ≤ most ∧ (gat bs).1 ≤ 2147483647 then gat bs else (0, 0)
theorem cAt_yes {bs : List UInt8} {most : Int} (h0 : 0 ≤ most) (h1 : ((gat bs).1 : Int) ≤ most) (h2 : (gat bs).1 ≤ 2147483647) : cAt bs most = gat bs := if_pos ⟨h0, h1, h2⟩
theorem cAt_no {bs : List UInt8} {most : Int} (h : most < 0 ∨ most < ((gat bs).1 : Int) ∨ 2147483647 < (gat bs).1) : cAt bs most = (0, 0) := if_neg (by omega)
theorem cAt_le (bs : List UInt8) (most : Int) : (cAt bs most).1 ≤ 2147483647 ∧ (cAt bs most).2 ≤ 10 ∧ (cAt bs most).2 ≤ bs.length := by
  unfold cAt
  split
  · exact ⟨by omega, gat_small bs, gat_len bs⟩
  · simp
/-- The text of most bytes at most that stands at the head, and how many bytes it has. -/
def sAt (bs : List UInt8) (most : Int) : List UInt8 × Nat :=
  if (cAt bs most).2 = 0 ∨ bs.length < (cAt bs most).2 + (cAt bs most).1 then ([], 0)
  else ((bs.drop (cAt bs most).2).take (cAt bs most).1, (cAt bs most).2 + (cAt bs most).1)
theorem sAt_eq {bs : List UInt8} {most : Int} {m hd : Nat} (h : cAt bs most = (m, hd)) : sAt bs most = if hd = 0 ∨ bs.length < hd + m then ([], 0) else ((bs.drop hd).take m, hd + m) := by
  unfold sAt
  rw [h]
/-- The truth value at the head. -/
def fAt : List UInt8 → Bool × Nat
  | [] => (false, 0)
  | c :: _ => if 1 < c.toNat then (false, 0) else (c == 1, 1)

end Go.Proofs.Yteiiekfccecoiaa
