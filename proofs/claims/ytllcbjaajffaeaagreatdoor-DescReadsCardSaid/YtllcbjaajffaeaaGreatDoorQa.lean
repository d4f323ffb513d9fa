import Derived.Test.YtllcbjaajffaeaaGreatDoorRl
namespace Go.Proofs.YtllcbjaajffaeaaGreatDoor
set_option linter.unusedSimpArgs false
open Go.Am Go.Pd
set_option linter.unusedVariables false
set_option maxRecDepth 20000
set_option maxHeartbeats 4000000
attribute [local irreducible] OS LSr ODS CS YS
section
variable {L : RL}
theorem n_is (n m : Nat) : ieqB ((n : Nat) : Int) (m : Nat) = (n == m) := by rw [ieqB_eq, Bool.eq_iff_iff]; simp; omega
theorem n_le (n m : Nat) : ileB ((m : Nat) : Int) (n : Nat) = decide (m ≤ n) := by rw [ileB_eq, Bool.eq_iff_iff]; simp
theorem shape_ct (w : W) (k : UInt8) (f : Bool) (n : Nat) : CS Tryz.prog 75 [str w, .int .u8 (k.toNat : Nat), .bool f, .int .i64 (n : Nat)] L fun v L' => v = .bool (Pd.shape w k f n) ∧ L' = L := by
  have e0 : ieqB (k.toNat : Nat) 0 = (k == 0) := cmp_u8 (k := 0) k 0 rfl
  have e2 : ieqB (k.toNat : Nat) 2 = (k == 2) := cmp_u8 (k := 2) k 2 rfl
  have e0' : (!ieqB (k.toNat : Nat) 0) = !(k == 0) := by rw [e0]
  have n0 : ieqB (n : Nat) 0 = (n == 0) := n_is n 0
  have n1 : ieqB (n : Nat) 1 = (n == 1) := n_is n 1
  have n2 : ieqB (n : Nat) 2 = (n == 2) := n_is n 2
  have g1 : ileB 1 (n : Nat) = decide (1 ≤ n) := n_le n 1
  have g2 : ileB 2 (n : Nat) = decide (2 ≤ n) := n_le n 2
  by_cases h0 : w = kInclude
  · subst h0
    simp only [sh_Include, bne]
    rcases tf (k == 0) with a | a <;> rcases tf (n == 1) with b | b
    all_goals
      simp only [a] at e0 e0' ⊢
      simp only [b] at n1 ⊢
      refine CS.mk (fn := Tryz.f75) rfl rfl rfl rfl ?_
      refine yG ?_
      exact ⟨rfl, rfl⟩
  by_cases h1 : w = kOn
  · subst h1
    simp only [sh_On, bne]
    rcases tf (k == 0) with a | a <;> rcases tf (decide (1 ≤ n)) with b | b
    all_goals
      simp only [a] at e0 e0' ⊢
      simp only [b] at g1 ⊢
      refine CS.mk (fn := Tryz.f75) rfl rfl rfl rfl ?_
      refine yG ?_
      exact ⟨rfl, rfl⟩
  by_cases h2 : w = kPaths
  · subst h2
    simp only [sh_Paths, bne]
    rcases tf (k == 0) with a | a <;> rcases tf (decide (1 ≤ n)) with b | b
    all_goals
      simp only [a] at e0 e0' ⊢
      simp only [b] at g1 ⊢
      refine CS.mk (fn := Tryz.f75) rfl rfl rfl rfl ?_
      refine yG ?_
      exact ⟨rfl, rfl⟩
  by_cases h3 : w = kVar
  · subst h3
    simp only [sh_Var, bne]
    rcases tf (n == 2) with b | b
    all_goals
      simp only [b] at n2 ⊢
      refine CS.mk (fn := Tryz.f75) rfl rfl rfl rfl ?_
      refine yG ?_
      exact ⟨rfl, rfl⟩
  by_cases h4 : w = kUse
  · subst h4
    simp only [sh_Use, bne]
    rcases tf (k == 2) with a | a <;> rcases tf (n == 1) with b | b <;> cases f
    all_goals
      simp only [a] at e2 ⊢
      simp only [b] at n1 ⊢
      refine CS.mk (fn := Tryz.f75) rfl rfl rfl rfl ?_
      refine yG ?_
      exact ⟨rfl, rfl⟩
  by_cases h5 : w = kNeeds
  · subst h5
    simp only [sh_Needs, bne]
    rcases tf (k == 0) with a | a <;> rcases tf (decide (1 ≤ n)) with b | b
    all_goals
      simp only [a] at e0 e0' ⊢
      simp only [b] at g1 ⊢
      refine CS.mk (fn := Tryz.f75) rfl rfl rfl rfl ?_
      refine yG ?_
      exact ⟨rfl, rfl⟩
  by_cases h6 : w = kTags
  · subst h6
    simp only [sh_Tags, bne]
    rcases tf (k == 0) with a | a <;> rcases tf (decide (1 ≤ n)) with b | b
    all_goals
      simp only [a] at e0 e0' ⊢
      simp only [b] at g1 ⊢
      refine CS.mk (fn := Tryz.f75) rfl rfl rfl rfl ?_
      refine yG ?_
      exact ⟨rfl, rfl⟩
  by_cases h7 : w = kWhen
  · subst h7
    simp only [sh_When, bne]
    rcases tf (k == 0) with a | a <;> rcases tf (decide (1 ≤ n)) with b | b
    all_goals
      simp only [a] at e0 e0' ⊢
      simp only [b] at g1 ⊢
      refine CS.mk (fn := Tryz.f75) rfl rfl rfl rfl ?_
      refine yG ?_
      exact ⟨rfl, rfl⟩
  by_cases h8 : w = kDo
  · subst h8
    simp only [sh_Do, bne]
    rcases tf (k == 0) with a | a <;> rcases tf (decide (1 ≤ n)) with b | b
    all_goals
      simp only [a] at e0 e0' ⊢
      simp only [b] at g1 ⊢
      refine CS.mk (fn := Tryz.f75) rfl rfl rfl rfl ?_
      refine yG ?_
      exact ⟨rfl, rfl⟩
  by_cases h9 : w = kKeep
  · subst h9
    simp only [sh_Keep, bne]
    rcases tf (k == 0) with a | a <;> rcases tf (decide (1 ≤ n)) with b | b
    all_goals
      simp only [a] at e0 e0' ⊢
      simp only [b] at g1 ⊢
      refine CS.mk (fn := Tryz.f75) rfl rfl rfl rfl ?_
      refine yG ?_
      exact ⟨rfl, rfl⟩
  by_cases h10 : w = kAxis
  · subst h10
    simp only [sh_Axis, bne]
    rcases tf (k == 0) with a | a <;> rcases tf (decide (2 ≤ n)) with b | b
    all_goals
      simp only [a] at e0 e0' ⊢
      simp only [b] at g2 ⊢
      refine CS.mk (fn := Tryz.f75) rfl rfl rfl rfl ?_
      refine yG ?_
      exact ⟨rfl, rfl⟩
  by_cases h11 : w = kTries
  · subst h11
    simp only [sh_Tries, bne]
    rcases tf (k == 0) with a | a <;> rcases tf (n == 1) with b | b
    all_goals
      simp only [a] at e0 e0' ⊢
      simp only [b] at n1 ⊢
      refine CS.mk (fn := Tryz.f75) rfl rfl rfl rfl ?_
      refine yG ?_
      exact ⟨rfl, rfl⟩
  by_cases h12 : w = kLimit
  · subst h12
    simp only [sh_Limit, bne]
    rcases tf (k == 0) with a | a <;> rcases tf (n == 1) with b | b
    all_goals
      simp only [a] at e0 e0' ⊢
      simp only [b] at n1 ⊢
      refine CS.mk (fn := Tryz.f75) rfl rfl rfl rfl ?_
      refine yG ?_
      exact ⟨rfl, rfl⟩
  by_cases h13 : w = kManual
  · subst h13
    simp only [sh_Manual, bne]
    rcases tf (k == 0) with a | a <;> rcases tf (n == 0) with b | b
    all_goals
      simp only [a] at e0 e0' ⊢
      simp only [b] at n0 ⊢
      refine CS.mk (fn := Tryz.f75) rfl rfl rfl rfl ?_
      refine yG ?_
      exact ⟨rfl, rfl⟩
  have b0 : bytesEq w kInclude = false := by rw [beq_bytes]; simpa using h0
  have b1 : bytesEq w kOn = false := by rw [beq_bytes]; simpa using h1
  have b2 : bytesEq w kPaths = false := by rw [beq_bytes]; simpa using h2
  have b3 : bytesEq w kVar = false := by rw [beq_bytes]; simpa using h3
  have b4 : bytesEq w kUse = false := by rw [beq_bytes]; simpa using h4
  have b5 : bytesEq w kNeeds = false := by rw [beq_bytes]; simpa using h5
  have b6 : bytesEq w kTags = false := by rw [beq_bytes]; simpa using h6
  have b7 : bytesEq w kWhen = false := by rw [beq_bytes]; simpa using h7
  have b8 : bytesEq w kDo = false := by rw [beq_bytes]; simpa using h8
  have b9 : bytesEq w kKeep = false := by rw [beq_bytes]; simpa using h9
  have b10 : bytesEq w kAxis = false := by rw [beq_bytes]; simpa using h10
  have b11 : bytesEq w kTries = false := by rw [beq_bytes]; simpa using h11
  have b12 : bytesEq w kLimit = false := by rw [beq_bytes]; simpa using h12
  have b13 : bytesEq w kManual = false := by rw [beq_bytes]; simpa using h13
  rw [show Pd.shape w k f n = false by simp [Pd.shape, h0, h1, h2, h3, h4, h5, h6, h7, h8, h9, h10, h11, h12, h13]]
  simp only [kInclude, kOn, kPaths, kVar, kUse, kNeeds, kTags, kWhen, kDo, kKeep, kAxis, kTries, kLimit, kManual] at b0 b1 b2 b3 b4 b5 b6 b7 b8 b9 b10 b11 b12 b13
  refine CS.mk (fn := Tryz.f75) rfl rfl rfl rfl ?_
  refine yG ?_
  exact ⟨rfl, rfl⟩
end
end Go.Proofs.YtllcbjaajffaeaaGreatDoor
