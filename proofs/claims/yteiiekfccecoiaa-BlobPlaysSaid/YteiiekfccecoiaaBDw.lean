/- Layer 3: what writes and cuts of the program's disk come to, all cases. -/
import Derived.Test.YteiiekfccecoiaaBDh
import Derived.Test.YteiiekfccecoiaaDv
import Derived.Test.YteiiekfccecoiaaAk
namespace Go.Proofs.Yteiiekfccecoiaa
open Go.Am
set_option linter.unusedVariables false
set_option maxRecDepth 20000

/-- What a write comes to: its answer, and the disk behind it. -/
def wrD (s : Dk) (i : Int) (bs : List UInt8) : Int × Dk :=
  if s.dead = true then (20, s) else if ¬ (0 ≤ i ∧ i < s.n ∧ bs.length = 256) then (1, s) else if s.cut = true ∧ s.left = 0 then (20, ⟨s.n, s.D, s.wr, true, 0, true⟩) else (0, ⟨s.n, put s.D i.toNat bs, s.wr + 1, s.cut, if s.cut then s.left - 1 else s.left, s.dead⟩)
theorem Write_all {F : RL} {rd rb : Nat} {s : Dk} (hs : s.ok) (i : Int) {b : Value} {m : Nat} {bs : List UInt8} (hb : SV 1 F b m (byteCells bs)) : CS Try.prog 60 [ptr rd, .int .i64 i, b] (dk rd rb s F) fun v L' => v = .int .i64 (wrD s i bs).1 ∧ L' = dk rd rb (wrD s i bs).2 F := by
  have hl : bs.length = m := by have := hb.len; rw [byteCells_len] at this; omega
  unfold wrD
  by_cases hd : s.dead = true
  · rw [if_pos hd]; exact Write_dead hd _ _
  have hd' : s.dead = false := by simpa using hd
  rw [if_neg hd]
  by_cases hi : 0 ≤ i ∧ i < s.n
  · obtain ⟨j, rfl⟩ := Int.eq_ofNat_of_zero_le hi.1
    by_cases hm : m = 256
    · rw [if_neg (by rw [hl]; omega)]
      subst hm
      by_cases hc : s.cut = true ∧ s.left = 0
      · rw [if_pos hc]; exact Write_cut hd' hc.1 hc.2 j (by omega) hb
      · rw [if_neg hc]
        exact Write_ct hs hd' (fun h => by by_cases h0 : s.left = 0; exact absurd ⟨h, h0⟩ hc; omega) j (by omega) hb
    · rw [if_pos (by rw [hl]; omega)]; exact Write_len hd' j (by omega) hb hm
  · rw [if_pos (by omega)]; exact Write_out hd' i hi b
theorem wrD_ok {s : Dk} {i : Int} {bs : List UInt8} (hs : s.ok) (hw : s.wr < 1000000) : (wrD s i bs).2.ok := by
  obtain ⟨h1, h2, h3, h4, h5⟩ := hs
  unfold wrD
  split
  · exact ⟨h1, h2, h3, h4, h5⟩
  · split
    · exact ⟨h1, h2, h3, h4, h5⟩
    · rename_i hq
      have hq : 0 ≤ i ∧ i < s.n ∧ bs.length = 256 := Classical.not_not.1 hq
      split
      · exact ⟨h1, h2, h3, h4, Nat.zero_le _⟩
      · refine ⟨put_len h1 (show i.toNat < s.n by have := hq.1; have := hq.2.1; omega) hq.2.2, h2, h3, by show s.wr + 1 ≤ _; omega, ?_⟩
        show (if s.cut = true then s.left - 1 else s.left) ≤ _
        split <;> omega
theorem wrD_wr {s : Dk} {i : Int} {bs : List UInt8} : (wrD s i bs).2.wr ≤ s.wr + 1 := by
  unfold wrD; split
  · exact Nat.le_succ _
  · split
    · exact Nat.le_succ _
    · split
      · exact Nat.le_succ _
      · exact Nat.le_refl _
theorem wrD_n {s : Dk} {i : Int} {bs : List UInt8} : (wrD s i bs).2.n = s.n := by
  unfold wrD; split
  · rfl
  · split
    · rfl
    · split <;> rfl

/-- What a cut comes to. -/
def cutD (s : Dk) (m : Int) : Int × Dk :=
  if s.dead = true then (20, s) else if m < 0 then (1, s) else (0, ⟨s.n, s.D, s.wr, true, m.toNat, s.dead⟩)
theorem Cut_all {F : RL} {rd rb : Nat} {s : Dk} (m : Int) (hm : m ≤ 9223372036854775807) : CS Try.prog 22 [ptr rd, .int .i64 m] (dk rd rb s F) fun v L' => v = .int .i64 (cutD s m).1 ∧ L' = dk rd rb (cutD s m).2 F := by
  unfold cutD
  by_cases hd : s.dead = true
  · rw [if_pos hd]; exact Cut_dead hd _
  have hd' : s.dead = false := by simpa using hd
  rw [if_neg hd]
  by_cases h0 : m < 0
  · rw [if_pos h0]; exact Cut_neg hd' m h0
  · rw [if_neg h0]
    obtain ⟨j, rfl⟩ := Int.eq_ofNat_of_zero_le (show 0 ≤ m by omega)
    exact Cut_ct hd' j (by omega)
theorem cutD_ok {s : Dk} {m : Int} (hs : s.ok) (hm : m ≤ 9223372036854775807) : (cutD s m).2.ok := by
  obtain ⟨h1, h2, h3, h4, h5⟩ := hs
  unfold cutD
  split
  · exact ⟨h1, h2, h3, h4, h5⟩
  · split
    · exact ⟨h1, h2, h3, h4, h5⟩
    · exact ⟨h1, h2, h3, h4, by show m.toNat ≤ _; omega⟩
theorem cutD_wr {s : Dk} {m : Int} : (cutD s m).2.wr = s.wr ∧ (cutD s m).2.n = s.n ∧ (cutD s m).2.D = s.D := by
  unfold cutD; split
  · exact ⟨rfl, rfl, rfl⟩
  · split <;> exact ⟨rfl, rfl, rfl⟩

end Go.Proofs.Yteiiekfccecoiaa
