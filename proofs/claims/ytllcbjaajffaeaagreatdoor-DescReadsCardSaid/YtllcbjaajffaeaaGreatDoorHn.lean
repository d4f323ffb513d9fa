import Derived.Test.YtllcbjaajffaeaaGreatDoorHa
import Derived.Lib.AtoiAll
import Derived.Lib.ItoaMem
set_option linter.unusedSimpArgs false
namespace Go.Pd
open Go.Lib
theorem numV_snoc (l : B) (c : UInt8) : numV (l ++ [c]) = 10 * numV l + (c.toNat - 48) := by simp [numV]
theorem dig_iff (c : UInt8) : digB c = true ↔ 48 ≤ c.toNat ∧ c.toNat ≤ 57 := by simp [digB]
theorem snoc_ind {P : B → Prop} (h0 : P []) (h1 : ∀ l c, P l → P (l ++ [c])) (l : B) : P l := by
  have : ∀ l : B, P l.reverse := fun l => by
    induction l with
    | nil => exact h0
    | cons c l ih => rw [List.reverse_cons]; exact h1 _ _ ih
  have h := this l.reverse
  rwa [List.reverse_reverse] at h
theorem numV_pos (l : B) : l ≠ [] → l.head? ≠ some 48 → l.all digB = true → 1 ≤ numV l := by
  induction l using snoc_ind with
  | h0 => intro h; exact absurd rfl h
  | h1 l c ih =>
    intro _ hh hd
    rw [numV_snoc]
    rw [List.all_append, Bool.and_eq_true] at hd
    cases l with
    | nil =>
      have hc := (dig_iff c).1 (by simpa using hd.2)
      have : c ≠ 48 := fun e => hh (by simp [e])
      have h48 : c.toNat ≠ 48 := fun e => this (UInt8.toNat_inj.1 e)
      omega
    | cons x l =>
      have := ih (by simp) (by simpa using hh) hd.1
      omega
theorem dec_numV (l : B) : l ≠ [] → l.head? ≠ some 48 → l.all digB = true → decDigits (numV l) = l := by
  induction l using snoc_ind with
  | h0 => intro h; exact absurd rfl h
  | h1 l c ih =>
    intro _ hh hd
    rw [numV_snoc]
    rw [List.all_append, Bool.and_eq_true] at hd
    have hc := (dig_iff c).1 (by simpa using hd.2)
    have hback : UInt8.ofNat (48 + (c.toNat - 48)) = c := by
      apply UInt8.toNat_inj.1
      simp
      omega
    cases l with
    | nil =>
      rw [decDigits, dif_pos (by simp [numV]; omega)]
      simp [numV, hback]
    | cons x l =>
      have hp := numV_pos (x :: l) (by simp) (by simpa using hh) hd.1
      have h1 := ih (by simp) (by simpa using hh) hd.1
      rw [decDigits, dif_neg (by omega), show (10 * numV (x :: l) + (c.toNat - 48)) / 10 = numV (x :: l) by omega, h1, show (10 * numV (x :: l) + (c.toNat - 48)) % 10 = c.toNat - 48 by omega, hback]
theorem dec_facts (u : Nat) : (decDigits u).all digB = true ∧ numV (decDigits u) = u ∧ (1 ≤ u → (decDigits u).head? ≠ some 48) ∧ decDigits u ≠ [] := by
  induction u using Nat.strongRecOn with
  | ind u ih =>
    by_cases h : u < 10
    · have e : decDigits u = [UInt8.ofNat (48 + u)] := by rw [decDigits, dif_pos h]
      have ht : (UInt8.ofNat (48 + u)).toNat = 48 + u := by simp; omega
      rw [e]
      refine ⟨by simp [dig_iff, ht]; omega, by simp only [numV, List.foldl_cons, List.foldl_nil, ht]; omega, fun h1 hh => ?_, by simp⟩
      simp only [List.head?_cons, Option.some.injEq] at hh
      have := congrArg UInt8.toNat hh
      rw [ht] at this
      have h48 : (48 : UInt8).toNat = 48 := rfl
      omega
    · have e : decDigits u = decDigits (u / 10) ++ [UInt8.ofNat (48 + u % 10)] := by rw [decDigits, dif_neg h]
      obtain ⟨h1, h2, h3, h4⟩ := ih (u / 10) (by omega)
      have ht : (UInt8.ofNat (48 + u % 10)).toNat = 48 + u % 10 := by simp; omega
      rw [e]
      refine ⟨by rw [List.all_append, h1]; simp [dig_iff, ht]; omega, by rw [numV_snoc, h2, ht]; omega, fun _ hh => ?_, by simp⟩
      refine h3 (by omega) ?_
      cases hd : decDigits (u / 10) with
      | nil => exact absurd hd h4
      | cons x l => rw [hd] at hh; simpa using hh
theorem dec_len {u : Nat} (h : u ≤ 1000) : (decDigits u).length ≤ 6 := by
  rw [decDigits_length]
  by_cases h1 : u < 10
  · rw [nDigits_small h1]; omega
  · rw [nDigits_big h1]
    by_cases h2 : u / 10 < 10
    · rw [nDigits_small h2]; omega
    · rw [nDigits_big h2]
      by_cases h3 : u / 10 / 10 < 10
      · rw [nDigits_small h3]; omega
      · rw [nDigits_big h3, nDigits_small (by omega)]; omega
theorem num_dec {u : Nat} (h1 : 1 ≤ u) (h : u ≤ 1000) : numN (decDigits u) = u := by
  obtain ⟨a, b, c, d⟩ := dec_facts u
  unfold numN
  rw [if_neg (by rintro (h | h | h); · exact d h
                 · exact c h1 h
                 · exact absurd (dec_len ‹_›) (by omega)), if_pos a, b]
theorem parse_num : ∀ (l : B) (acc k : Nat), l.all digB = true → l.length ≤ k → k ≤ 6 → acc < 10 ^ (6 - k) → parseUint10 acc l = .ok (l.foldl (fun n c => 10 * n + (c.toNat - 48)) acc)
  | [], acc, k, _, _, _, _ => rfl
  | c :: r, acc, k, hd, hl, hk, ha => by
    simp only [List.all_cons, Bool.and_eq_true] at hd
    have hc := (dig_iff c).1 hd.1
    simp only [List.length_cons] at hl
    have hp : 10 ^ (6 - k) ≤ 1000000 := by
      have := Nat.pow_le_pow_right (n := 10) (by decide) (show 6 - k ≤ 6 by omega)
      simpa using this
    have hnext : acc * 10 + (c.toNat - 48) < 10 ^ (6 - (k - 1)) := by
      rw [show 6 - (k - 1) = (6 - k) + 1 by omega, Nat.pow_succ]
      omega
    rw [parseUint10, if_pos hc, if_neg (by omega), if_neg (by omega), parse_num r _ (k - 1) hd.2 (by omega) (by omega) hnext, List.foldl_cons, Nat.mul_comm acc 10]
theorem num_asks {s : B} {m : Nat} (hm : m ≤ 1000) : (∃ v, atoiAll s = .ok v ∧ 1 ≤ v ∧ v ≤ (m : Int) ∧ itoa v = s) ↔ 1 ≤ numN s ∧ numN s ≤ m := by
  constructor
  · rintro ⟨v, h1, h2, h3, h4⟩
    obtain ⟨u, rfl⟩ : ∃ u : Nat, v = (u : Int) := ⟨v.toNat, by omega⟩
    rw [itoa_nonneg] at h4
    rw [← h4, num_dec (by omega) (by omega)]
    omega
  · rintro ⟨h1, h2⟩
    have hx : ¬ (s = [] ∨ s.head? = some 48 ∨ 6 < s.length) := fun h => by unfold numN at h1; rw [if_pos h] at h1; omega
    have hd : s.all digB = true := by
      unfold numN at h1
      rw [if_neg hx] at h1
      cases h : s.all digB with
      | true => rfl
      | false => rw [h] at h1; simp at h1
    have hv : numN s = numV s := by unfold numN; rw [if_neg hx, if_pos hd]
    have hne : s ≠ [] := fun h => hx (.inl h)
    have hh : s.head? ≠ some 48 := fun h => hx (.inr (.inl h))
    have hl : s.length ≤ 6 := by
      rcases Nat.lt_or_ge 6 s.length with h | h
      · exact absurd (.inr (.inr h)) hx
      · exact h
    refine ⟨(numV s : Int), ?_, by omega, by omega, by rw [itoa_nonneg]; exact dec_numV s hne hh hd⟩
    cases s with
    | nil => exact absurd rfl hne
    | cons c r =>
      have hc := (dig_iff c).1 (by simp only [List.all_cons, Bool.and_eq_true] at hd; exact hd.1)
      have hp := parse_num (c :: r) 0 6 hd hl (Nat.le_refl _) (by decide)
      have hlt : numV (c :: r) ≤ 1000 := by omega
      unfold atoiAll
      simp only
      rw [if_neg (by omega)]
      unfold parseMag
      rw [if_neg (by simp), hp]
      simp only
      rw [if_neg (by show ¬ (¬ c.toNat = 45 ∧ 9223372036854775808 ≤ numV (c :: r)); omega), if_neg (by omega), if_neg (by omega)]
      rfl
end Go.Pd
