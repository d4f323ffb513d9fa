/- Layer 4: what a group's writes, all or some, leave of the blocks. -/
import Derived.Test.YteiiekfccecoiaaBJf
namespace Go.Proofs.Yteiiekfccecoiaa
open Go.Am
set_option linter.unusedVariables false
set_option maxRecDepth 20000

abbrev zeros : List UInt8 := List.replicate 256 0
def slotW (ps : List (Int × List UInt8)) : List (Int × List UInt8) := ps.zipIdx.map fun p => (((2 + p.2 : Nat) : Int), p.1.2)
theorem slotW_len {ps : List (Int × List UInt8)} : (slotW ps).length = ps.length := by simp [slotW]
theorem slotW_mem {ps : List (Int × List UInt8)} {w : Int × List UInt8} (h : w ∈ slotW ps) : ∃ i p, ps[i]? = some p ∧ w = (((2 + i : Nat) : Int), p.2) := by
  obtain ⟨⟨p, i⟩, hm, rfl⟩ := List.mem_map.1 h
  have := List.mem_zipIdx hm
  refine ⟨i, p, ?_, rfl⟩
  have h2 := this.2.2
  simp only [Nat.sub_zero] at h2
  exact List.getElem?_eq_some_iff.2 ⟨by omega, h2.symm⟩
theorem doW_eq {ps : List (Int × List UInt8)} : doW ps = slotW ps ++ (1, headB ps) :: (ps ++ [(1, zeros)]) := by
  unfold doW layW finW slotW; rw [List.append_assoc]; rfl

section
variable {n : Nat} {ps : List (Int × List UInt8)}
theorem Good.fit (h : Good n ps) (hn : 512 ≤ n) : Fit n ps := fun w hw => by
  obtain ⟨h1, h2⟩ := h.1 w hw
  unfold plainP at h1
  exact ⟨by omega, by omega, h2⟩
theorem Good.fitSlots (h : Good n ps) (hn : 512 ≤ n) (hl : ps.length ≤ 120) : Fit n (slotW ps) := fun w hw => by
  obtain ⟨i, p, hp, rfl⟩ := slotW_mem hw
  have hi : i < ps.length := (List.getElem?_eq_some_iff.1 hp).1
  have := (h.1 p (List.mem_of_getElem? hp)).2
  exact ⟨by simp; omega, by simp; omega, this⟩
theorem Good.fitFin (h : Good n ps) (hn : 512 ≤ n) : Fit n (finW ps) := fun w hw => by
  unfold finW at hw
  rcases List.mem_append.1 hw with hw | hw
  · exact h.fit hn w hw
  · rw [List.mem_singleton.1 hw]; exact ⟨(show (0 : Int) ≤ 1 by decide), (show (1 : Int) < n by omega), (show (List.replicate 256 (0 : UInt8)).length = 256 from List.length_replicate)⟩
theorem Good.fitDo (h : Good n ps) (hn : 512 ≤ n) (hl : ps.length ≤ 120) : Fit n (doW ps) := fun w hw => by
  rw [doW_eq] at hw
  rcases List.mem_append.1 hw with hw | hw
  · exact h.fitSlots hn hl w hw
  · rcases List.mem_cons.1 hw with rfl | hw
    · exact ⟨(show (0 : Int) ≤ 1 by decide), (show (1 : Int) < n by omega), headB_len⟩
    · exact h.fitFin hn w hw
theorem Fit.take {ws : List (Int × List UInt8)} {k : Nat} (h : Fit n ws) : Fit n (ws.take k) := fun w hw => h w (List.mem_of_mem_take hw)

/-- A plain block's number is no number of the area. -/
theorem plain_far {j : Int} (h : plainP n j) : j ≠ 1 ∧ ∀ i : Nat, i < 120 → j ≠ ((2 + i : Nat) : Int) := by
  unfold plainP at h
  exact ⟨by omega, fun i hi => by omega⟩

/-- Some of the writes of finishing: the area stays as long as the head does, and so do blocks that are not the group's. -/
theorem fin_some {D : List UInt8} {m : Nat} (h : Good n ps) (hn : 512 ≤ n) (hl : ps.length ≤ 120) (hD : D.length = n * 256) (hm : m ≤ ps.length) :
    (wrs D ((finW ps).take m)).length = n * 256 ∧ blk (wrs D ((finW ps).take m)) 1 = blk D 1 ∧ (∀ i, i < 120 → blk (wrs D ((finW ps).take m)) (2 + i) = blk D (2 + i)) ∧
    (∀ j : Nat, (j : Int) ∉ ps.map (·.1) → blk (wrs D ((finW ps).take m)) j = blk D j) := by
  have e : (finW ps).take m = ps.take m := by unfold finW; rw [List.take_append_of_le_length hm]
  rw [e]
  have hf : Fit n (ps.take m) := (h.fit hn).take
  refine ⟨wrs_len hD hf, blk_wrs_ne hD hf (fun w hw => ?_), fun i hi => blk_wrs_ne hD hf (fun w hw => ?_), fun j hj => blk_wrs_ne hD hf (fun w hw => ?_)⟩
  · exact (plain_far (h.1 w (List.mem_of_mem_take hw)).1).1
  · exact (plain_far (h.1 w (List.mem_of_mem_take hw)).1).2 i hi
  · intro e; exact hj (List.mem_map.2 ⟨w, List.mem_of_mem_take hw, e⟩)
/-- All writes of finishing. -/
theorem fin_all {D : List UInt8} (h : Good n ps) (hn : 512 ≤ n) (hl : ps.length ≤ 120) (hD : D.length = n * 256) :
    (wrs D (finW ps)).length = n * 256 ∧ blk (wrs D (finW ps)) 1 = zeros ∧ (∀ (j : Nat) d, ((j : Int), d) ∈ ps → blk (wrs D (finW ps)) j = d) ∧ (∀ j : Nat, j ≠ 1 → (j : Int) ∉ ps.map (·.1) → blk (wrs D (finW ps)) j = blk D j) := by
  have hf := h.fitFin hn
  refine ⟨wrs_len hD hf, ?_, fun j d hj => ?_, fun j h1 hj => blk_wrs_ne hD hf (fun w hw => ?_)⟩
  · exact blk_wrs_at (j := 1) (us := ps) (vs := []) hD hf (fun w hw => by cases hw)
  · obtain ⟨us, vs, e⟩ := List.append_of_mem hj
    have hnd := h.2
    have e2 : finW ps = us ++ ((j : Int), d) :: (vs ++ [(1, zeros)]) := by
      unfold finW
      conv => lhs; rw [e]
      rw [List.append_assoc]; rfl
    rw [e2]
    rw [e2] at hf
    refine blk_wrs_at hD hf (fun w hw => ?_)
    rcases List.mem_append.1 hw with hw | hw
    · rw [e, List.map_append, List.map_cons, List.nodup_append] at hnd
      have := (List.nodup_cons.1 hnd.2.1).1
      intro e3
      exact this (List.mem_map.2 ⟨w, hw, e3⟩)
    · rw [List.mem_singleton.1 hw]
      exact (plain_far (h.1 _ hj).1).1.symm
  · unfold finW at hw
    rcases List.mem_append.1 hw with hw | hw
    · intro e; exact hj (List.mem_map.2 ⟨w, hw, e⟩)
    · rw [List.mem_singleton.1 hw]
      simp
      omega
/-- The slots alone: nothing else has turned. -/
theorem lay_some {D : List UInt8} {k : Nat} (h : Good n ps) (hn : 512 ≤ n) (hl : ps.length ≤ 120) (hD : D.length = n * 256) (hk : k ≤ ps.length) :
    (wrs D ((doW ps).take k)).length = n * 256 ∧ blk (wrs D ((doW ps).take k)) 1 = blk D 1 ∧ (∀ j : Nat, plainP n j → blk (wrs D ((doW ps).take k)) j = blk D j) := by
  have e : (doW ps).take k = (slotW ps).take k := by rw [doW_eq, List.take_append_of_le_length (by rw [slotW_len]; exact hk)]
  rw [e]
  have hf : Fit n ((slotW ps).take k) := (h.fitSlots hn hl).take
  refine ⟨wrs_len hD hf, blk_wrs_ne hD hf (fun w hw => ?_), fun j hj => blk_wrs_ne hD hf (fun w hw => ?_)⟩
  · obtain ⟨i, p, hp, rfl⟩ := slotW_mem (List.mem_of_mem_take hw)
    simp
    omega
  · obtain ⟨i, p, hp, rfl⟩ := slotW_mem (List.mem_of_mem_take hw)
    have hi : i < ps.length := (List.getElem?_eq_some_iff.1 hp).1
    exact ((plain_far hj).2 i (by omega)).symm
/-- The slots and the head: the group counts. -/
theorem lay_all {D : List UInt8} (h : Good n ps) (hn : 512 ≤ n) (hl : ps.length ≤ 120) (hD : D.length = n * 256) :
    (wrs D (layW ps)).length = n * 256 ∧ blk (wrs D (layW ps)) 1 = headB ps ∧ (∀ i p, ps[i]? = some p → blk (wrs D (layW ps)) (2 + i) = p.2) ∧ (∀ j : Nat, plainP n j → blk (wrs D (layW ps)) j = blk D j) := by
  have e : layW ps = slotW ps ++ [(1, headB ps)] := rfl
  have hf : Fit n (layW ps) := fun w hw => h.fitDo hn hl w (by unfold doW; exact List.mem_append_left _ hw)
  refine ⟨wrs_len hD hf, ?_, fun i p hp => ?_, fun j hj => blk_wrs_ne hD hf (fun w hw => ?_)⟩
  · rw [e] at hf ⊢
    exact blk_wrs_at (j := 1) (us := slotW ps) (vs := []) hD hf (fun w hw => by cases hw)
  · have hi : i < ps.length := (List.getElem?_eq_some_iff.1 hp).1
    have hg : (layW ps)[i]? = some (((2 + i : Nat) : Int), p.2) := layW_at hp
    have hi2 : i < (layW ps).length := by rw [layW_len]; omega
    have e2 : layW ps = (layW ps).take i ++ (((2 + i : Nat) : Int), p.2) :: (layW ps).drop (i + 1) := by
      rw [List.getElem?_eq_getElem hi2] at hg
      rw [← Option.some.inj hg, List.getElem_cons_drop, List.take_append_drop]
    rw [e2] at hf ⊢
    refine blk_wrs_at hD hf (fun w hw => ?_)
    obtain ⟨q, hq, hqw⟩ := List.getElem_of_mem hw
    rw [List.getElem_drop] at hqw
    have hq2 : (layW ps)[i + 1 + q]? = some w := by
      rw [List.getElem?_eq_getElem (by rw [List.length_drop] at hq; omega), hqw]
    rw [e] at hq2
    by_cases hqs : i + 1 + q < ps.length
    · rw [List.getElem?_append_left (by rw [slotW_len]; exact hqs)] at hq2
      have := layW_at (List.getElem?_eq_getElem hqs)
      rw [e, List.getElem?_append_left (by rw [slotW_len]; exact hqs), hq2] at this
      rw [Option.some.inj this]
      simp
      omega
    · rw [List.getElem?_append_right (by rw [slotW_len]; omega)] at hq2
      have := List.mem_of_getElem? hq2
      rw [List.mem_singleton.1 this]
      simp
      omega
  · rw [e] at hw
    rcases List.mem_append.1 hw with hw | hw
    · obtain ⟨i, p, hp, rfl⟩ := slotW_mem hw
      have hi : i < ps.length := (List.getElem?_eq_some_iff.1 hp).1
      exact ((plain_far hj).2 i (by omega)).symm
    · rw [List.mem_singleton.1 hw]
      exact (plain_far hj).1.symm
/-- All of a group. -/
theorem do_all {D : List UInt8} (h : Good n ps) (hn : 512 ≤ n) (hl : ps.length ≤ 120) (hD : D.length = n * 256) :
    (wrs D (doW ps)).length = n * 256 ∧ blk (wrs D (doW ps)) 1 = zeros ∧ (∀ (j : Nat) d, ((j : Int), d) ∈ ps → blk (wrs D (doW ps)) j = d) ∧ (∀ j : Nat, plainP n j → (j : Int) ∉ ps.map (·.1) → blk (wrs D (doW ps)) j = blk D j) := by
  obtain ⟨a1, _, _, a4⟩ := lay_all h hn hl hD
  obtain ⟨b1, b2, b3, b4⟩ := fin_all h hn hl a1
  have e : wrs D (doW ps) = wrs (wrs D (layW ps)) (finW ps) := by unfold doW; exact wrs_append
  rw [e]
  refine ⟨b1, b2, b3, fun j hj hno => ?_⟩
  rw [b4 j (fun h => (plain_far hj).1 (by omega)) hno, a4 j hj]
/-- A group that is cut behind its head. -/
theorem do_some {D : List UInt8} {m : Nat} (h : Good n ps) (hn : 512 ≤ n) (hl : ps.length ≤ 120) (hD : D.length = n * 256) (hm : m ≤ ps.length) :
    (wrs D ((doW ps).take (ps.length + 1 + m))).length = n * 256 ∧ blk (wrs D ((doW ps).take (ps.length + 1 + m))) 1 = headB ps ∧ (∀ i p, ps[i]? = some p → blk (wrs D ((doW ps).take (ps.length + 1 + m))) (2 + i) = p.2) ∧
    (∀ j : Nat, plainP n j → (j : Int) ∉ ps.map (·.1) → blk (wrs D ((doW ps).take (ps.length + 1 + m))) j = blk D j) := by
  obtain ⟨a1, a2, a3, a4⟩ := lay_all h hn hl hD
  obtain ⟨b1, b2, b3, b4⟩ := fin_some (m := m) h hn hl a1 hm
  have e : (doW ps).take (ps.length + 1 + m) = layW ps ++ (finW ps).take m := by
    unfold doW
    rw [List.take_append, layW_len, List.take_of_length_le (by rw [layW_len]; omega), show ps.length + 1 + m - (ps.length + 1) = m by omega]
  rw [e, wrs_append]
  refine ⟨b1, by rw [b2, a2], fun i p hp => ?_, fun j hj hno => by rw [b4 j hno, a4 j hj]⟩
  have hi : i < ps.length := (List.getElem?_eq_some_iff.1 hp).1
  rw [b3 i (by omega), a3 i p hp]
end
end Go.Proofs.Yteiiekfccecoiaa
