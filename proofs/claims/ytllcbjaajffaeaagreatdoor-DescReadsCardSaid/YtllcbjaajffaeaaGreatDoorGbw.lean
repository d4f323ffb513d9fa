import Derived.Test.YtllcbjaajffaeaaGreatDoorYl
import Derived.Test.YtllcbjaajffaeaaGreatDoorWlM
import Derived.Test.YtllcbjaajffaeaaGreatDoorGa
import Derived.Test.YtllcbjaajffaeaaGreatDoorProg
import Derived.KernelRfl
namespace Go.Proofs.YtllcbjaajffaeaaGreatDoor
open Go.Am
set_option linter.unusedVariables false
set_option maxRecDepth 20000
attribute [local irreducible] OS LSr ODS CS
theorem cmp_u8 (c : UInt8) {k : Int} (k' : UInt8) (hk : k = (k'.toNat : Nat)) : ieqB (c.toNat : Nat) k = (c == k') := by
  rw [ieqB_eq, Bool.eq_iff_iff, hk]
  simp [← UInt8.toNat_inj]; omega
theorem eq_u8 (c d : UInt8) : ieqB (c.toNat : Nat) (d.toNat : Nat) = (c == d) := cmp_u8 c d rfl
theorem beq_bytes (x y : List UInt8) : bytesEq x y = decide (x = y) := by rw [bytesEq_eq, Bool.eq_iff_iff]; simp
theorem shown_of {c : UInt8} (h1 : (!ileB 33 (c.toNat : Nat)) = false) (h2 : (!ileB (c.toNat : Nat) 126) = false) : shown c = true := by
  have h1 := nlt_of h1
  have h2 := nlt_of h2
  unfold shown
  simp; omega
theorem hid_of {c : UInt8} (h : (!ileB 33 (c.toNat : Nat)) = true ∨ (!ileB (c.toNat : Nat) 126) = true) : shown c = false := by
  unfold shown
  rcases h with h | h <;> have h := lt_of h <;> simp <;> omega
theorem all_step {p : List UInt8} {k : Nat} {c : UInt8} (hc : p[k]? = some c) : (p.take (k + 1)).all shown = ((p.take k).all shown && shown c) := by
  rw [take_snoc hc, List.all_append]; simp
theorem chk_bad {p : List UInt8} {k : Nat} {c : UInt8} (h6 : p.length ≤ 64) (hc : p[k]? = some c) (hs : shown c = false) : chk p = 4 := by
  have hne : p ≠ [] := by rintro rfl; simp at hc
  have hall : p.all shown = false := by
    rw [Bool.eq_false_iff]
    intro h
    have := List.all_eq_true.1 h c (List.mem_of_getElem? hc)
    rw [hs] at this; cases this
  unfold chk
  rw [if_neg (by omega), if_neg hne, hall]; rfl
theorem chk_good {p : List UInt8} (h6 : p.length ≤ 64) (hne : p ≠ []) (ha : (p.take p.length).all shown = true) : chk p = 0 := by
  rw [List.take_length] at ha
  unfold chk
  rw [if_neg (by omega), if_neg hne, if_pos ha]
theorem Check_ct {L : RL} (p : List UInt8) : CS Tryz.prog 155 [str p] L fun v L' => v = .int .i64 (chk p) ∧ L' = L := by
  refine CS.mk (fn := Tryz.f155) rfl rfl rfl rfl ?_
  by_cases h6 : 64 < p.length
  · have hb : (!ileB (p.length : Int) 64) = true := by rw [ileB_eq]; simp; omega
    refine yG ?_
    exact ⟨by unfold chk; rw [if_pos h6]; rfl, rfl⟩
  have hb : (!ileB (p.length : Int) 64) = false := by rw [ileB_eq]; simp; omega
  by_cases hne : p = []
  · subst hne
    refine yG ?_
    exact ⟨rfl, rfl⟩
  have hb2 : bytesEq p [] = false := by rw [beq_bytes]; simpa using hne
  refine yG ?_
  refine LS.loopJ [0, 10, 11] (fun q a L' => ∃ k : Nat, q = p.length - k ∧ k ≤ p.length ∧ (p.take k).all shown = true ∧ L' = L ∧ a = [str p, .chan none, .chan none, .chan none, .chan none, .chan none, .chan none, .chan none, .chan none, .chan none, .int .i64 (p.length : Nat), .int .i64 (k : Nat), .chan none, .chan none, .chan none, .chan none, .chan none, .chan none, .chan none, .chan none, .chan none, .chan none, .chan none, .chan none, .chan none]) (n := p.length) rfl ⟨0, rfl, by omega, by simp, rfl, rfl⟩ ?_
  rintro q a L' ⟨k, rfl, hk, hall, rfl, rfl⟩
  refine yG ?_
  repeat refine LS.seq ?_
  refine LS.cond rfl (fun hc => ?_) (fun hc => ?_)
  · have hc := lt_of hc
    have hkl : k < p.length := by omega
    obtain ⟨c, hcb⟩ : ∃ c, p[k]? = some c := ⟨_, List.getElem?_eq_getElem hkl⟩
    refine LS.skip ?_
    rcases tf (!ileB 33 (c.toNat : Nat)) with h1 | h1
    · refine yG ?_
      exact ⟨by rw [chk_bad (by omega) hcb (hid_of (.inl h1))]; rfl, rfl⟩
    · rcases tf (!ileB (c.toNat : Nat) 126) with h2 | h2
      · refine yG ?_
        exact ⟨by rw [chk_bad (by omega) hcb (hid_of (.inr h2))]; rfl, rfl⟩
      · refine yG ?_
        exact ⟨p.length - (k + 1), by omega, k + 1, rfl, by omega, by rw [all_step hcb, hall, shown_of h1 h2]; rfl, rfl, rfl⟩
  · have hc := nlt_of hc
    obtain rfl : k = p.length := by omega
    refine LS.exit ?_
    repeat refine LS.seq ?_
    refine LS.region rfl ?_
    refine yG ?_
    exact ⟨by rw [chk_good (by omega) hne hall]; rfl, rfl⟩
theorem refCheck_ct {L : RL} (p : List UInt8) : CS Tryz.prog 106 [str p] L fun v L' => v = .int .i64 (chk p) ∧ L' = L := by
  refine CS.mk (fn := Tryz.f106) rfl rfl rfl rfl ?_
  by_cases h6 : 64 < p.length
  · have hb : (!ileB (p.length : Int) 64) = true := by rw [ileB_eq]; simp; omega
    refine yG ?_
    exact ⟨by unfold chk; rw [if_pos h6]; rfl, rfl⟩
  have hb : (!ileB (p.length : Int) 64) = false := by rw [ileB_eq]; simp; omega
  by_cases hne : p = []
  · subst hne
    refine yG ?_
    exact ⟨rfl, rfl⟩
  have hb2 : bytesEq p [] = false := by rw [beq_bytes]; simpa using hne
  refine yG ?_
  refine LS.loopJ [0, 3] (fun q a L' => ∃ k : Nat, q = p.length - k ∧ k ≤ p.length ∧ (p.take k).all shown = true ∧ L' = L ∧ a = [str p, .chan none, .chan none, .int .i64 (k : Nat), .chan none, .chan none, .chan none, .chan none, .chan none, .chan none, .chan none, .chan none, .chan none, .chan none, .chan none, .chan none, .chan none, .chan none, .chan none, .chan none, .chan none, .chan none, .chan none, .chan none, .chan none]) (n := p.length) rfl ⟨0, rfl, by omega, by simp, rfl, rfl⟩ ?_
  rintro q a L' ⟨k, rfl, hk, hall, rfl, rfl⟩
  refine yG ?_
  repeat refine LS.seq ?_
  refine LS.cond rfl (fun hc => ?_) (fun hc => ?_)
  · have hc := lt_of hc
    have hkl : k < p.length := by omega
    obtain ⟨c, hcb⟩ : ∃ c, p[k]? = some c := ⟨_, List.getElem?_eq_getElem hkl⟩
    refine LS.skip ?_
    rcases tf (!ileB 33 (c.toNat : Nat)) with h1 | h1
    · refine yG ?_
      exact ⟨by rw [chk_bad (by omega) hcb (hid_of (.inl h1))]; rfl, rfl⟩
    · rcases tf (!ileB (c.toNat : Nat) 126) with h2 | h2
      · refine yG ?_
        exact ⟨by rw [chk_bad (by omega) hcb (hid_of (.inr h2))]; rfl, rfl⟩
      · refine yG ?_
        exact ⟨p.length - (k + 1), by omega, k + 1, rfl, by omega, by rw [all_step hcb, hall, shown_of h1 h2]; rfl, rfl, rfl⟩
  · have hc := nlt_of hc
    obtain rfl : k = p.length := by omega
    refine LS.exit ?_
    refine yG ?_
    exact ⟨by rw [chk_good (by omega) hne hall]; rfl, rfl⟩
end Go.Proofs.YtllcbjaajffaeaaGreatDoor
