/- Layer 15, plain: heaps. -/
import Derived.Test.YteakbbnlkjckhaaGrA
namespace Go.Gp
set_option linter.unusedVariables false
set_option linter.unusedSimpArgs false
/-- What stands at a place. -/
def at' (H : List Nat) (k : Nat) : Nat := H.getD k 0
theorem at_of {H : List Nat} {k x : Nat} (h : H[k]? = some x) : at' H k = x := by
  unfold at'; rw [List.getD_eq_getElem?_getD, h]; rfl
theorem of_at {H : List Nat} {k : Nat} (h : k < H.length) : H[k]? = some (at' H k) := by
  rw [List.getElem?_eq_getElem h, at_of (List.getElem?_eq_getElem h)]
/-- Two places exchanged. -/
def swp (H : List Nat) (i j : Nat) : List Nat := (H.set i (at' H j)).set j (at' H i)
theorem swp_len (H : List Nat) (i j : Nat) : (swp H i j).length = H.length := by simp [swp]
theorem swp_at {H : List Nat} {i j : Nat} (hi : i < H.length) (hj : j < H.length) (k : Nat) : at' (swp H i j) k = if k = i then at' H j else if k = j then at' H i else at' H k := by
  unfold at' swp
  rw [List.getD_eq_getElem?_getD, List.getElem?_set, List.getElem?_set]
  by_cases h1 : k = i
  · subst h1
    rw [if_pos rfl]
    by_cases h2 : j = k
    · subst h2; simp [hj, at', List.getD_eq_getElem?_getD]
    · simp [h2, hi]; unfold at'; rw [List.getD_eq_getElem?_getD]
  · rw [if_neg h1]
    by_cases h2 : k = j
    · subst h2; simp [hj]; unfold at'; rw [List.getD_eq_getElem?_getD]
    · rw [if_neg h2, if_neg (Ne.symm h2), if_neg (Ne.symm h1), List.getD_eq_getElem?_getD]
theorem swp_perm {H : List Nat} {i j : Nat} (hi : i < H.length) (hj : j < H.length) : (swp H i j).Perm H := by
  unfold swp
  have e1 : at' H j = H[j] := at_of (List.getElem?_eq_getElem hj)
  have e2 : at' H i = H[i] := at_of (List.getElem?_eq_getElem hi)
  rw [e1, e2]
  exact List.set_set_perm hi hj
/-- The first n stand as a heap. -/
def HO (H : List Nat) (n : Nat) : Prop := ∀ k, 0 < k → k < n → at' H ((k - 1) / 2) ≤ at' H k
theorem HO.least {H : List Nat} {n : Nat} (h : HO H n) : ∀ k, k < n → at' H 0 ≤ at' H k := by
  intro k
  induction k using Nat.strongRecOn with
  | _ k ih =>
    intro hk
    rcases Nat.eq_zero_or_pos k with rfl | hp
    · exact Nat.le_refl _
    · exact Nat.le_trans (ih ((k - 1) / 2) (by omega) (by omega)) (h k hp hk)
/-- But for the one at j, which may stand too low. -/
def UpI (H : List Nat) (n j : Nat) : Prop := (∀ k, 0 < k → k < n → k ≠ j → at' H ((k - 1) / 2) ≤ at' H k) ∧ (0 < j → ∀ k, 0 < k → k < n → (k - 1) / 2 = j → at' H ((j - 1) / 2) ≤ at' H k)
theorem UpI.top {H : List Nat} {n : Nat} (h : UpI H n 0) : HO H n := fun k h0 hk => h.1 k h0 hk (by omega)
theorem UpI.done {H : List Nat} {n j : Nat} (h : UpI H n j) (hle : at' H ((j - 1) / 2) ≤ at' H j) : HO H n := fun k h0 hk => by
  by_cases he : k = j
  · subst he; exact hle
  · exact h.1 k h0 hk he
theorem UpI.step {H : List Nat} {n j : Nat} (h : UpI H n j) (hn : n ≤ H.length) (h0 : 0 < j) (hj : j < n) (hlt : at' H j < at' H ((j - 1) / 2)) : UpI (swp H ((j - 1) / 2) j) n ((j - 1) / 2) := by
  have hi : (j - 1) / 2 < H.length := by omega
  have hj' : j < H.length := by omega
  have hne : (j - 1) / 2 ≠ j := by omega
  constructor
  · intro k hk0 hk hkn
    rw [swp_at hi hj', swp_at hi hj']
    rw [if_neg hkn]
    have h1 := h.1 k hk0 hk
    have h2 := h.2 h0 k hk0 hk
    by_cases e1 : k = j
    · subst e1
      rw [if_pos rfl, if_pos rfl]; omega
    · rw [if_neg e1]
      have h1 := h1 e1
      by_cases e2 : (k - 1) / 2 = (j - 1) / 2
      · rw [if_pos e2]; rw [e2] at h1; omega
      · rw [if_neg e2]
        by_cases e3 : (k - 1) / 2 = j
        · rw [if_pos e3]; exact h2 e3
        · rw [if_neg e3]; exact h1
  · intro hi0 k hk0 hk hkp
    rw [swp_at hi hj', swp_at hi hj']
    have hp : ((j - 1) / 2 - 1) / 2 ≠ (j - 1) / 2 := by omega
    have hp2 : ((j - 1) / 2 - 1) / 2 ≠ j := by omega
    rw [if_neg hp, if_neg hp2]
    have h3 := h.1 ((j - 1) / 2) hi0 (by omega) hne
    have hk1 : k ≠ (j - 1) / 2 := by omega
    rw [if_neg hk1]
    by_cases e1 : k = j
    · rw [if_pos e1]; exact h3
    · rw [if_neg e1]
      have := h.1 k hk0 hk e1
      rw [hkp] at this
      omega
/-- But for the one at i, which may stand too high. -/
def DnI (H : List Nat) (n i : Nat) : Prop := (∀ k, 0 < k → k < n → (k - 1) / 2 ≠ i → at' H ((k - 1) / 2) ≤ at' H k) ∧ (0 < i → ∀ k, 0 < k → k < n → (k - 1) / 2 = i → at' H ((i - 1) / 2) ≤ at' H k)
theorem DnI.leaf {H : List Nat} {n i : Nat} (h : DnI H n i) (hn : n ≤ 2 * i + 1) : HO H n := fun k h0 hk => h.1 k h0 hk (by omega)
theorem DnI.done {H : List Nat} {n i : Nat} (h : DnI H n i) (h1 : at' H i ≤ at' H (2 * i + 1)) (h2 : 2 * i + 2 < n → at' H i ≤ at' H (2 * i + 2)) : HO H n := fun k h0 hk => by
  by_cases he : (k - 1) / 2 = i
  · rw [he]
    rcases (show k = 2 * i + 1 ∨ k = 2 * i + 2 by omega) with rfl | rfl
    · exact h1
    · exact h2 hk
  · exact h.1 k h0 hk he
theorem DnI.step {H : List Nat} {n i j : Nat} (h : DnI H n i) (hn : n ≤ H.length) (hj : j = 2 * i + 1 ∨ j = 2 * i + 2) (hjn : j < n) (hlt : at' H j < at' H i) (hl : at' H j ≤ at' H (2 * i + 1)) (hr : 2 * i + 2 < n → at' H j ≤ at' H (2 * i + 2)) : DnI (swp H i j) n j := by
  have hi : i < H.length := by omega
  have hj' : j < H.length := by omega
  constructor
  · intro k hk0 hk hkn
    rw [swp_at hi hj', swp_at hi hj']
    by_cases e1 : k = i
    · subst e1
      rw [if_pos rfl]
      rw [if_neg (by omega), if_neg (by omega)]
      exact h.2 hk0 j (by omega) hjn (by omega)
    · rw [if_neg e1]
      by_cases e2 : (k - 1) / 2 = i
      · rw [if_pos e2]
        by_cases e3 : k = j
        · rw [if_pos e3]; omega
        · rw [if_neg e3]
          rcases (show k = 2 * i + 1 ∨ k = 2 * i + 2 by omega) with rfl | rfl
          · exact hl
          · exact hr hk
      · rw [if_neg e2, if_neg hkn]
        have := h.1 k hk0 hk e2
        rw [if_neg (by omega)]
        exact this
  · intro _ k hk0 hk hkp
    rw [swp_at hi hj', swp_at hi hj']
    rw [if_pos (by omega), if_neg (by omega), if_neg (by omega)]
    have := h.1 k hk0 hk (by omega)
    rw [hkp] at this
    exact this
/-- A heap. -/
def Hp (H : List Nat) : Prop := HO H H.length
theorem push_up {H : List Nat} (h : Hp H) (x : Nat) : UpI (H ++ [x]) (H.length + 1) H.length := by
  have e : ∀ k, k < H.length → at' (H ++ [x]) k = at' H k := fun k hk => by
    unfold at'; rw [List.getD_eq_getElem?_getD, List.getD_eq_getElem?_getD, List.getElem?_append_left hk]
  refine ⟨fun k h0 hk hne => ?_, fun _ k h0 hk hp => by omega⟩
  rw [e _ (by omega), e _ (by omega)]
  exact h k h0 (by omega)
theorem pop_down {H : List Nat} {n : Nat} (h : Hp H) (hn : H.length = n + 1) : DnI (swp H 0 n) n 0 := by
  refine ⟨fun k h0 hk hne => ?_, fun h0 => by omega⟩
  rw [swp_at (by omega) (by omega), swp_at (by omega) (by omega)]
  rw [if_neg hne, if_neg (by omega), if_neg (by omega), if_neg (by omega)]
  exact h k h0 (by omega)
theorem at_take {H : List Nat} {n k : Nat} (h : k < n) : at' (H.take n) k = at' H k := by
  unfold at'; rw [List.getD_eq_getElem?_getD, List.getD_eq_getElem?_getD, List.getElem?_take, if_pos h]
theorem HO.take {H : List Nat} {n : Nat} (h : HO H n) (hn : n ≤ H.length) : Hp (H.take n) := fun k h0 hk => by
  simp at hk
  rw [at_take (by omega), at_take (by omega)]
  exact h k h0 (by omega)
theorem swp_drop {H : List Nat} {i j n : Nat} (hi : i < n) (hj : j < n) : (swp H i j).drop n = H.drop n := by
  unfold swp
  rw [List.drop_set_of_lt hj, List.drop_set_of_lt hi]
theorem Hp.nil : Hp [] := fun k h0 hk => by simp at hk
end Go.Gp
