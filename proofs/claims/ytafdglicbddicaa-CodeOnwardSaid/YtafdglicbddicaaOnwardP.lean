/- What a reader takes off are just the bytes of what it tells: plain mathematics. -/
import Derived.Test.YtafdglicbddicaaApartX
namespace Go.Proofs.Ytafdglicbddicaa
open Go.RowKit

theorem gat_take {r : List UInt8} (h : (gat r).2 ≠ 0) : grp (gat r).1 = r.take (gat r).2 := by
  rcases gat_inv r with h0 | ⟨u, hp, he, hu⟩
  · rw [h0] at h; exact absurd rfl h
  · rw [he]; exact List.prefix_iff_eq_take.1 hp
theorem cAt_pos {r : List UInt8} {most : Int} (h : (cAt r most).2 ≠ 0) : cAt r most = gat r ∧ ((gat r).1 : Int) ≤ most ∧ (gat r).1 ≤ 2147483647 ∧ (gat r).2 ≠ 0 := by
  unfold cAt at h ⊢
  by_cases hc : 0 ≤ most ∧ ((gat r).1 : Int) ≤ most ∧ (gat r).1 ≤ 2147483647
  · rw [if_pos hc] at h ⊢
    exact ⟨rfl, hc.2.1, hc.2.2, h⟩
  · rw [if_neg hc] at h
    exact absurd rfl h
theorem sAt_pos {r : List UInt8} {most : Int} (h : (sAt r most).2 ≠ 0) : (cAt r most).2 ≠ 0 ∧ (cAt r most).2 + (cAt r most).1 ≤ r.length ∧ sAt r most = ((r.drop (cAt r most).2).take (cAt r most).1, (cAt r most).2 + (cAt r most).1) := by
  unfold sAt at h ⊢
  by_cases hc : (cAt r most).2 = 0 ∨ r.length < (cAt r most).2 + (cAt r most).1
  · rw [if_pos hc] at h
    exact absurd rfl h
  · rw [if_neg hc]
    exact ⟨by omega, by omega, rfl⟩

/-- The bytes of what is told, as a thing of the kind that was asked for. -/
theorem took_eq (k : UInt8) (N : Int) (s : ByteArray) (r : List UInt8) (h : Th.sz ⟨k, N, s⟩ r ≠ 0) :
    Th.bytes ⟨k, Th.tn ⟨k, N, s⟩ r, tstr (Th.ts ⟨k, N, s⟩ r)⟩ = r.take (Th.sz ⟨k, N, s⟩ r) := by
  unfold Th.sz Th.tn Th.ts at *
  simp only at *
  by_cases h0 : k.toNat = 0
  · simp only [if_pos h0] at h ⊢
    rw [Th.b0 h0]
    simp only
    rw [zig_unz]
    exact gat_take h
  · simp only [if_neg h0] at h ⊢
    by_cases h1 : k.toNat = 1
    · simp only [if_pos h1] at h ⊢
      rw [Th.b1 h1]
      simp only
      obtain ⟨e, _, e2, e3⟩ := cAt_pos h
      rw [e, cntB_nat e2]
      exact gat_take e3
    · simp only [if_neg h1] at h ⊢
      by_cases h2 : k.toNat = 2
      · simp only [if_pos h2] at h ⊢
        rw [Th.b2 h2]
        simp only
        obtain ⟨e1, e2, e3⟩ := sAt_pos h
        obtain ⟨f1, _, f2, f3⟩ := cAt_pos e1
        rw [e3]
        simp only
        have hl : ((r.drop (cAt r N).2).take (cAt r N).1).length = (cAt r N).1 := by
          rw [List.length_take, List.length_drop]; omega
        have hz : (tstr ((r.drop (cAt r N).2).take (cAt r N).1)).size = (cAt r N).1 := by
          show (((r.drop (cAt r N).2).take (cAt r N).1).toArray).size = _
          rw [List.size_toArray, hl]
        have hd : (tstr ((r.drop (cAt r N).2).take (cAt r N).1)).data.toList = (r.drop (cAt r N).2).take (cAt r N).1 := by simp [tstr]
        rw [hz, hd, List.take_add]
        congr 1
        rw [f1]
        exact gat_take f3
      · simp only [if_neg h2] at h ⊢
        rw [Th.b3 (by simp only; omega)]
        simp only
        cases r with
        | nil => exact absurd rfl h
        | cons c r =>
          unfold fAt at h ⊢
          simp only at h ⊢
          by_cases hc : 1 < c.toNat
          · rw [if_pos hc] at h; exact absurd rfl h
          · simp only [if_neg hc]
            rcases (show c.toNat = 0 ∨ c.toNat = 1 by omega) with h5 | h5
            · have : c = 0 := UInt8.toNat_inj.1 h5
              subst this
              rfl
            · have : c = 1 := UInt8.toNat_inj.1 h5
              subst this
              rfl
theorem took_le1 {k : UInt8} {N : Int} {s : ByteArray} {r : List UInt8} (h : Th.sz ⟨k, N, s⟩ r ≠ 0) (hk : k.toNat = 1) : Th.tn ⟨k, N, s⟩ r ≤ N := by
  unfold Th.sz at h
  unfold Th.tn
  simp only [hk] at h ⊢
  obtain ⟨e, e1, _, _⟩ := cAt_pos (r := r) (most := N) h
  simp only [if_true, show ¬ (1 : Nat) = 0 by omega, if_false]
  rw [e]; exact e1
theorem took_le2 {k : UInt8} {N : Int} {s : ByteArray} {r : List UInt8} (h : Th.sz ⟨k, N, s⟩ r ≠ 0) (hk : k.toNat = 2) : ((Th.ts ⟨k, N, s⟩ r).length : Int) ≤ N := by
  unfold Th.sz at h
  unfold Th.ts
  simp only [hk] at h ⊢
  obtain ⟨e1, e2, e3⟩ := sAt_pos (r := r) (most := N) h
  obtain ⟨f1, f2, _, _⟩ := cAt_pos e1
  simp only [if_true]
  rw [e3]
  simp only
  rw [List.length_take, f1]
  omega
theorem tn_bd (k : UInt8) (N : Int) (s : ByteArray) (r : List UInt8) : -9223372036854775808 ≤ Th.tn ⟨k, N, s⟩ r ∧ Th.tn ⟨k, N, s⟩ r ≤ 9223372036854775807 := by
  unfold Th.tn
  simp only
  split
  · exact unz_bd (gat_lt r)
  · split
    · have := (cAt_le r N).1; omega
    · split
      · omega
      · split <;> omega
theorem ts_len (k : UInt8) (N : Int) (s : ByteArray) (r : List UInt8) : (Th.ts ⟨k, N, s⟩ r).length ≤ r.length := by
  unfold Th.ts
  split
  · unfold sAt
    split
    · simp
    · simp only [List.length_take, List.length_drop]; omega
  · simp

end Go.Proofs.Ytafdglicbddicaa
