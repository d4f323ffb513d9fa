/- Layer 4: JournalCuts: what the blocks hold, whatever the cut. -/
import Derived.Test.YthfgjedcmhllfaaJi
namespace Go.Proofs.Ythfgjedcmhllfaa
open Go.Am
set_option linter.unusedVariables false
set_option maxRecDepth 20000

def psc (bl : List Int) (c : UInt8) : List (Int × List UInt8) := bl.map fun b => (b, rep c)
theorem psc_len {bl : List Int} {c : UInt8} : (psc bl c).length = bl.length := by simp [psc]
theorem psc_fst {bl : List Int} {c : UInt8} : (psc bl c).map (·.1) = bl := by simp [psc, Function.comp_def]
theorem psc_nil {bl : List Int} {c : UInt8} : psc bl c = [] ↔ bl = [] := by simp [psc]
theorem psc_mem {bl : List Int} {c : UInt8} {b : Int} (h : b ∈ bl) : (b, rep c) ∈ psc bl c := List.mem_map.2 ⟨b, h, rfl⟩
/-- Blocks that may be a group's. -/
structure Bl (bl : List Int) : Prop where
  rng : ∀ b ∈ bl, 122 ≤ b ∧ b < 512
  nd : bl.Nodup
  len : bl.length ≤ 120
theorem Bl.good {bl : List Int} (h : Bl bl) (c : UInt8) : Good 512 (psc bl c) := by
  refine ⟨fun p hp => ?_, by rw [psc_fst]; exact h.nd⟩
  obtain ⟨b, hb, rfl⟩ := List.mem_map.1 hp
  have := h.rng b hb
  exact ⟨.inr ⟨by show 121 < b; omega, by show b < 512; omega⟩, List.length_replicate⟩
def Pl (D : List UInt8) (bl : List Int) (c : UInt8) : Prop := ∀ j : Nat, plainP 512 j → blk D j = if (j : Int) ∈ bl then rep c else zeros
def Idle (D : List UInt8) : Prop := blk D 1 = zeros
def Pend (D : List UInt8) (bl : List Int) : Prop := bl ≠ [] ∧ blk D 1 = headB (psc bl 2) ∧ (∀ i p, (psc bl 2)[i]? = some p → blk D (2 + i) = p.2) ∧ ∀ j : Nat, plainP 512 j → (j : Int) ∉ bl → blk D j = zeros

theorem pl_do {bl : List Int} {D : List UInt8} {c c' : UInt8} (h : Bl bl) (hD : D.length = 512 * 256) (hp : Pl D bl c') : (wrs D (doW (psc bl c))).length = 512 * 256 ∧ Idle (wrs D (doW (psc bl c))) ∧ Pl (wrs D (doW (psc bl c))) bl c := by
  obtain ⟨a1, a2, a3, a4⟩ := do_all (h.good c) (by decide) (by rw [psc_len]; exact h.len) hD
  refine ⟨a1, a2, fun j hj => ?_⟩
  by_cases hm : (j : Int) ∈ bl
  · rw [if_pos hm]; exact a3 j _ (psc_mem hm)
  · rw [if_neg hm, a4 j hj (by rw [psc_fst]; exact hm), hp j hj, if_neg hm]
theorem pl_fin {bl : List Int} {D : List UInt8} (h : Bl bl) (hD : D.length = 512 * 256) (hp : Pend D bl) : (wrs D (finW (psc bl 2))).length = 512 * 256 ∧ Idle (wrs D (finW (psc bl 2))) ∧ Pl (wrs D (finW (psc bl 2))) bl 2 := by
  obtain ⟨a1, a2, a3, a4⟩ := fin_all (h.good 2) (by decide) (by rw [psc_len]; exact h.len) hD
  refine ⟨a1, a2, fun j hj => ?_⟩
  by_cases hm : (j : Int) ∈ bl
  · rw [if_pos hm]; exact a3 j _ (psc_mem hm)
  · rw [if_neg hm, a4 j (fun e => (plain_far hj).1 (by omega)) (by rw [psc_fst]; exact hm)]
    exact hp.2.2.2 j hj hm
theorem pend_some {bl : List Int} {D : List UInt8} {m : Nat} (h : Bl bl) (hD : D.length = 512 * 256) (hp : Pend D bl) (hm : m ≤ bl.length) : (wrs D ((finW (psc bl 2)).take m)).length = 512 * 256 ∧ Pend (wrs D ((finW (psc bl 2)).take m)) bl := by
  obtain ⟨a1, a2, a3, a4⟩ := fin_some (m := m) (h.good 2) (by decide) (by rw [psc_len]; exact h.len) hD (by rw [psc_len]; exact hm)
  refine ⟨a1, hp.1, by rw [a2]; exact hp.2.1, fun i p hi => ?_, fun j hj hno => ?_⟩
  · have hil : i < (psc bl 2).length := (List.getElem?_eq_some_iff.1 hi).1
    rw [psc_len] at hil
    rw [a3 i (by have := h.len; omega)]
    exact hp.2.2.1 i p hi
  · rw [a4 j (by rw [psc_fst]; exact hno)]
    exact hp.2.2.2 j hj hno

theorem do_one {bl : List Int} {D : List UInt8} (h : Bl bl) (hD : D.length = 512 * 256) (hz : ∀ j, j < 512 → blk D j = zeros) :
    ∃ D1 w1, doD ⟨512, D, 0, false, 0, false⟩ (psc bl 1) = (0, ⟨512, D1, w1, false, 0, false⟩) ∧ D1.length = 512 * 256 ∧ Idle D1 ∧ Pl D1 bl 1 ∧ w1 ≤ 242 := by
  by_cases hb : bl = []
  · subst hb
    refine ⟨D, 0, doD_empty rfl, hD, hz 1 (by omega), fun j hj => ?_, by omega⟩
    rw [if_neg (by simp)]
    exact hz j (by unfold plainP at hj; omega)
  · obtain ⟨a1, a2, a3⟩ := pl_do (c := 1) (c' := 0) h hD (fun j hj => by
      rw [hz j (by unfold plainP at hj; omega)]; split <;> rfl)
    refine ⟨_, 2 * bl.length + 2, ?_, a1, a2, a3, by have := h.len; omega⟩
    rw [doD_good rfl (h.good 1) (by rw [psc_len]; exact h.len) (fun e => hb (psc_nil.1 e)), runW_all rfl ((h.good 1).fitDo (by decide) (by rw [psc_len]; exact h.len)) (fun h => by cases h), doW_len, psc_len]
    simp

theorem do_two {bl : List Int} {D : List UInt8} {w n : Nat} (h : Bl bl) (hD : D.length = 512 * 256) (hw : w ≤ 242) (hn : n < 300) (hi : Idle D) (hp : Pl D bl 1) :
    ∃ e s', doD ⟨512, D, w, true, n, false⟩ (psc bl 2) = (e, s') ∧ s'.ok ∧ s'.n = 512 ∧ s'.wr ≤ 1000 ∧
      ((e = 0 ∧ s'.dead = false ∧ Idle s'.D ∧ Pl s'.D bl 2) ∨ (e = 20 ∧ n < 2 * bl.length + 2 ∧ s'.dead = true ∧ (Idle s'.D ∧ Pl s'.D bl 1 ∨ Pend s'.D bl))) := by
  have hlen := h.len
  by_cases hb : bl = []
  · subst hb
    refine ⟨0, _, doD_empty rfl, ok_of hD (by decide) (by decide) (by omega) (by omega), rfl, by show w ≤ 1000; omega, .inl ⟨rfl, rfl, hi, fun j hj => ?_⟩⟩
    have := hp j hj
    rw [if_neg (by simp)] at this ⊢
    exact this
  have hne : psc bl 2 ≠ [] := fun e => hb (psc_nil.1 e)
  have hl2 : (psc bl 2).length ≤ 120 := by rw [psc_len]; exact hlen
  have hfit := (h.good 2).fitDo (by decide) hl2
  by_cases hc : 2 * bl.length + 2 ≤ n
  · obtain ⟨a1, a2, a3⟩ := pl_do (c := 2) h hD hp
    refine ⟨0, ⟨512, wrs D (doW (psc bl 2)), w + (2 * bl.length + 2), true, n - (2 * bl.length + 2), false⟩, ?_, ok_of a1 (by decide) (by decide) (by omega) (by omega), rfl, by show w + _ ≤ 1000; omega, .inl ⟨rfl, rfl, a2, a3⟩⟩
    rw [doD_good rfl (h.good 2) hl2 hne, runW_all rfl hfit (fun _ => by rw [doW_len, psc_len]; exact hc), doW_len, psc_len]
    rfl
  have hcut : doD ⟨512, D, w, true, n, false⟩ (psc bl 2) = (20, ⟨512, wrs D ((doW (psc bl 2)).take n), w + n, true, 0, true⟩) := by
    rw [doD_good rfl (h.good 2) hl2 hne, runW_cut rfl hfit rfl (by rw [doW_len, psc_len]; show n < _; omega)]
  by_cases hk : n ≤ bl.length
  · obtain ⟨a1, a2, a3⟩ := lay_some (k := n) (h.good 2) (by decide) hl2 hD (by rw [psc_len]; exact hk)
    refine ⟨20, _, hcut, ok_of a1 (by decide) (by decide) (by omega) (by omega), rfl, by show w + n ≤ 1000; omega, .inr ⟨rfl, by omega, rfl, .inl ⟨a2.trans hi, fun j hj => ?_⟩⟩⟩
    rw [a3 j hj]
    exact hp j hj
  · obtain ⟨m, rfl⟩ : ∃ m, n = bl.length + 1 + m := ⟨n - (bl.length + 1), by omega⟩
    obtain ⟨a1, a2, a3, a4⟩ := do_some (m := m) (h.good 2) (by decide) hl2 hD (by rw [psc_len]; omega)
    rw [psc_len] at a1 a2 a3 a4
    refine ⟨20, _, hcut, ok_of a1 (by decide) (by decide) (by omega) (by omega), rfl, by show w + _ ≤ 1000; omega, .inr ⟨rfl, by omega, rfl, .inr ⟨hb, a2, a3, fun j hj hno => ?_⟩⟩⟩
    rw [a4 j hj (by rw [psc_fst]; exact hno), hp j hj, if_neg hno]

/-- A group that counts is finished, or cut again. -/
theorem open_cut {bl : List Int} {D : List UInt8} {c : Nat} (h : Bl bl) (hD : D.length = 512 * 256) (hp : Pend D bl) (hc : c ≤ 1000) :
    ∃ e s', runW ⟨512, D, 0, true, c, false⟩ (finW (psc bl 2)) = (e, s') ∧ s'.ok ∧ s'.n = 512 ∧ s'.wr ≤ 1000 ∧
      ((e = 0 ∧ s'.dead = false ∧ Idle s'.D ∧ Pl s'.D bl 2) ∨ (e = 20 ∧ s'.dead = true ∧ Pend s'.D bl)) := by
  have hlen := h.len
  have hl2 : (psc bl 2).length ≤ 120 := by rw [psc_len]; exact hlen
  have hfit := (h.good 2).fitFin (by decide)
  by_cases hk : bl.length + 1 ≤ c
  · obtain ⟨a1, a2, a3⟩ := pl_fin h hD hp
    refine ⟨0, ⟨512, wrs D (finW (psc bl 2)), 0 + (bl.length + 1), true, c - (bl.length + 1), false⟩, ?_, ok_of a1 (by decide) (by decide) (by omega) (by omega), rfl, by show 0 + _ ≤ 1000; omega, .inl ⟨rfl, rfl, a2, a3⟩⟩
    rw [runW_all rfl hfit (fun _ => by rw [finW_len, psc_len]; exact hk), finW_len, psc_len]
    rfl
  · obtain ⟨a1, a2⟩ := pend_some (m := c) h hD hp (by omega)
    refine ⟨20, _, runW_cut rfl hfit rfl (by rw [finW_len, psc_len]; show c < _; omega), ok_of a1 (show 512 ≤ 512 by decide) (show 512 ≤ 32768 by decide) (show 0 + c ≤ 1000000 by omega) (by omega), rfl, (show 0 + c ≤ 1000 by omega), .inr ⟨rfl, rfl, a2⟩⟩
theorem open_free {bl : List Int} {D : List UInt8} (h : Bl bl) (hD : D.length = 512 * 256) (hp : Pend D bl) :
    ∃ s', runW ⟨512, D, 0, false, 0, false⟩ (finW (psc bl 2)) = (0, s') ∧ s'.ok ∧ s'.n = 512 ∧ s'.dead = false ∧ Idle s'.D ∧ Pl s'.D bl 2 := by
  have hlen := h.len
  have hfit := (h.good 2).fitFin (by decide)
  obtain ⟨a1, a2, a3⟩ := pl_fin h hD hp
  refine ⟨⟨512, wrs D (finW (psc bl 2)), 0 + (bl.length + 1), false, 0, false⟩, ?_, ok_of a1 (by decide) (by decide) (by omega) (by omega), rfl, rfl, a2, a3⟩
  rw [runW_all rfl hfit (fun h => by cases h), finW_len, psc_len]
  rfl
end Go.Proofs.Ythfgjedcmhllfaa
