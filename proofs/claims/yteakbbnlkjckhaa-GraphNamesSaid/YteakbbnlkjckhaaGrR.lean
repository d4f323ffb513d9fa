/- Layer 15: the law GraphCycles. -/
import Derived.Test.YteakbbnlkjckhaaGrQ
namespace Go.Proofs.Yteakbbnlkjckhaa
open Go.Am Go.Gp
set_option linter.unusedVariables false
set_option linter.unusedSimpArgs false
set_option maxRecDepth 20000
set_option maxHeartbeats 4000000
attribute [local irreducible] OS LSr ODS CS
theorem works_ct {L : RL} : CS Try.prog 9 [] L fun v L' => v = .bool true ∧ L' = L := CS.closed_true noGo mixed works_run
theorem contains_snoc (l : List Nat) (z i : Nat) : (l ++ [z]).contains i = (l.contains i || decide (z = i)) := by
  rw [Bool.eq_iff_iff]
  simp only [List.contains_iff_mem, List.mem_append, List.mem_singleton, Bool.or_eq_true, decide_eq_true_eq]
  exact or_congr Iff.rfl eq_comm
/-- Does one of the first things rest on itself? -/
noncomputable def cyc (Z : List (List Int)) (i : Nat) : Bool := (List.range i).any fun x => (belowZ Z (x : Nat)).contains x
theorem cyc_succ (Z : List (List Int)) (i : Nat) : cyc Z (i + 1) = (cyc Z i || (belowZ Z (i : Nat)).contains i) := by
  unfold cyc; rw [List.range_succ, List.any_append]; simp
theorem belowZ_nat {Z : List (List Int)} (hm : may Z = true) {x : Nat} (hx : x < Z.length) : okT Z (x : Nat) = true ∧ belowZ Z (x : Nat) = below (nat Z) x := by
  have h : okT Z (x : Nat) = true := by
    unfold okT isT
    rw [hm, decide_eq_true ⟨by omega, by omega⟩]; rfl
  exact ⟨h, by unfold belowZ; rw [if_pos h, Int.toNat_natCast]⟩
theorem cyc_all {Z : List (List Int)} (hm : may Z = true) : cyc Z Z.length = true ↔ ∃ i, Path (nat Z) i i := by
  unfold cyc
  rw [List.any_eq_true]
  constructor
  · rintro ⟨x, hx, hc⟩
    rw [List.mem_range] at hx
    rw [(belowZ_nat hm hx).2, List.contains_iff_mem, mem_below (nat_ok hm)] at hc
    exact ⟨x, hc⟩
  · rintro ⟨x, hp⟩
    have hx := hp.lt
    rw [nat_len] at hx
    exact ⟨x, List.mem_range.2 hx, by rw [(belowZ_nat hm hx).2, List.contains_iff_mem, mem_below (nat_ok hm)]; exact hp⟩
theorem cyc_E {Z : List (List Int)} (hm : may Z = true) : sortE Z = if cyc Z Z.length then 64 else 0 := by
  have h1 := (topo_cycle (nat_ok hm)).trans (cyc_all hm).symm
  unfold sortE
  rw [hm, if_pos rfl]
  by_cases h : (topo (nat Z)).length < (nat Z).length
  · rw [if_pos h, if_pos (h1.1 h)]
  · rw [if_neg h, if_neg fun hh => h (h1.2 hh)]
theorem cyclesLaw_ct {L : RL} {v : Value} {Z : List (List Int)} (hv : NL L v (zv Z)) (hf : Fits Z) : CS Try.prog 7 [v] L fun u _ => u = .bool true := by
  have aw : ∀ L : RL, CS Try.prog 9 [] L fun v L' => v = .bool true ∧ L' = L := fun L => works_ct
  have hZl := hf.1
  refine CS.mk (fn := Try.f7) rfl rfl rfl rfl ?_
  refine yG ?_
  refine OS.callS noGo rfl (fun _ => rfl) (aw _) rfl ?_
  refine yG ?_
  refine OS.call noGo rfl (fun _ => rfl) ((large_ct hv hf 60 (by omega)).mono ?_)
  rintro u L2 ⟨b, rfl, hb, hL⟩
  rw [hL]
  clear hL
  rcases tf b with h | h
  · rw [h]
    refine yG ?_
    refine OS.callS noGo rfl (fun _ => rfl) (aw _) rfl ?_
    refine yG ?_
    rfl
  obtain ⟨h1, h2⟩ := hb h
  rw [h]
  refine yG ?_
  refine OS.call noGo rfl (fun _ => rfl) ((Sort_ct hv).mono ?_)
  rintro u1 L2 ⟨Y, A1, c1, rfl, rfl, hs1⟩
  have hv0 := hv.mono (L' := Y ++ L) fun p hp => List.mem_append_right _ hp
  rcases tf (may Z) with hm | hm
  rotate_left
  · have e : sortE Z = 1 := by unfold sortE; rw [hm]; rfl
    rw [e]
    have g1 : ieqB ((1 : Nat) : Int) 1 = true := rfl
    refine yG ?_
    rfl
  have hE := cyc_E hm
  generalize sortE Z = E at hE
  have g1 : ieqB ((E : Nat) : Int) 1 = false := by rw [hE, ieqB_eq]; split <;> simp
  obtain ⟨ics, hs, hg⟩ := hv0.ofZ
  generalize Y ++ L = F at hv0 hs hg
  refine yG ?_
  refine LS.loopJ [0, 4, 5, 6] (fun q a L' => ∃ i : Nat, q = Z.length - i ∧ i ≤ Z.length ∧ L' = F ∧ a = [v, .chan none, .chan none, .chan none, .int .i64 (E : Nat), .bool (cyc Z i), iN i, .chan none, .chan none, .chan none, .chan none, .chan none, .chan none, .chan none, .chan none, .chan none, .chan none, .chan none, .chan none, .chan none, .chan none, .chan none, .chan none, .chan none, .chan none, .chan none, .chan none, .chan none, .chan none, .chan none, .chan none, .chan none, .chan none, .chan none, .chan none, .chan none, .chan none, .chan none, .chan none, .chan none, .chan none, .chan none, .chan none, .chan none, .chan none, .chan none, .chan none, .chan none, .chan none, .chan none, .chan none, .chan none, .chan none, .chan none, .chan none, .chan none, .chan none, .chan none, .chan none, .chan none, .chan none, .chan none, .chan none, .chan none]) (n := Z.length) rfl ⟨0, rfl, by omega, rfl, rfl⟩ ?_
  rintro q a L' ⟨i, rfl, hi, hL, rfl⟩
  rw [hL]
  clear hL
  by_cases hin : i < Z.length
  · have hbi : (!ileB ((Z.length : Nat) : Int) (i : Nat)) = true := by rw [ileB_eq]; simp; omega
    obtain ⟨hok, hbel⟩ := belowZ_nat hm hin
    have hB := Below_ct hv0 (i : Nat)
    rw [if_pos hok] at hB
    have hcs := cyc_succ Z i
    have hbl : (belowZ Z (i : Nat)).length ≤ 4096 := by rw [hbel]; have : (below (nat Z) i).length ≤ (nat Z).length := picks_len _ _; have := (may_len hm).1; omega
    generalize belowZ Z (i : Nat) = l at hB hcs hbl
    have g2 : (!ieqB ((0 : Nat) : Int) 0) = false := rfl
    refine yG ?_
    refine OS.call noGo rfl (fun _ => rfl) ((hB).mono ?_)
    rintro u2 L2 ⟨Y2, A2, c2, rfl, rfl, hs2⟩
    have hs3 := hs2.mono (L' := Y2 ++ F) fun p hp => List.mem_append_left _ hp
    refine yG ?_
    refine LS.loopJ [0, 4, 5, 6, 7, 9] (fun q a L' => ∃ k : Nat, q = l.length - k ∧ k ≤ l.length ∧ L' = Y2 ++ F ∧ a = [v, .chan none, .chan none, .chan none, .int .i64 (E : Nat), .bool (cyc Z i || (l.take k).contains i), iN i, .slice A2 l.length c2, .chan none, iN k, .chan none, .chan none, .chan none, .chan none, .chan none, .chan none, .chan none, .chan none, .chan none, .chan none, .chan none, .chan none, .chan none, .chan none, .chan none, .chan none, .chan none, .chan none, .chan none, .chan none, .chan none, .chan none, .chan none, .chan none, .chan none, .chan none, .chan none, .chan none, .chan none, .chan none, .chan none, .chan none, .chan none, .chan none, .chan none, .chan none, .chan none, .chan none, .chan none, .chan none, .chan none, .chan none, .chan none, .chan none, .chan none, .chan none, .chan none, .chan none, .chan none, .chan none, .chan none, .chan none, .chan none, .chan none]) (n := l.length) rfl ⟨0, rfl, by omega, rfl, by rw [show (cyc Z i || (l.take 0).contains i) = cyc Z i by simp]; rfl⟩ ?_
    rintro q a L' ⟨k, rfl, hk, hL, rfl⟩
    rw [hL]
    clear hL
    by_cases hkl : k < l.length
    · have hbk : (!ileB ((l.length : Nat) : Int) (k : Nat)) = true := by rw [ileB_eq]; simp; omega
      obtain ⟨z, hz⟩ := ext_list hkl
      have hstep : (cyc Z i || (l.take (k + 1)).contains i) = ((cyc Z i || (l.take k).contains i) || decide (z = i)) := by
        rw [take_snoc' hz, Bool.or_assoc, contains_snoc]
      generalize (cyc Z i || (l.take k).contains i) = c at hstep
      rcases tf c with rfl | rfl
      · refine yG ?_
        exact ⟨l.length - (k + 1), by omega, k + 1, rfl, by omega, rfl, by rw [hstep]; rfl⟩
      · have hd : ieqB ((z : Nat) : Int) (i : Nat) = decide (z = i) := by rw [ieqB_eq]; exact decide_eq_decide.2 (by omega)
        refine yG ?_
        refine OS.at1 (j := k) (hs3) (ns_at hz) rfl rfl rfl rfl rfl rfl (fun ra0 oa0 rowa0 csa0 ma0 ca0 ga0 => ⟨_, rfl, ?_⟩)
        refine OS.read rfl (e_loadm ma0 ca0 rfl rfl (part_one rfl ga0)) rfl ?_
        refine yG ?_
        exact ⟨l.length - (k + 1), by omega, k + 1, rfl, by omega, rfl, by rw [hstep]; rfl⟩
    · have hbk : (!ileB ((l.length : Nat) : Int) (k : Nat)) = false := by rw [ileB_eq]; simp; omega
      rw [List.take_of_length_le (by omega), ← hcs]
      refine yG ?_
      refine LS.sub (sub_front Y2 _) ?_
      refine LS.exit ?_
      refine yG ?_
      exact ⟨Z.length - (i + 1), by omega, i + 1, rfl, by omega, rfl, rfl⟩
  · have hbi : (!ileB ((Z.length : Nat) : Int) (i : Nat)) = false := by rw [ileB_eq]; simp; omega
    obtain rfl : i = Z.length := by omega
    rcases tf (cyc Z Z.length) with hc | hc
    · rw [hc, if_pos rfl] at hE
      subst hE
      rw [hc]
      refine yG ?_
      refine LS.exit ?_
      refine yG ?_
      rfl
    · rw [hc, if_neg (by simp)] at hE
      subst hE
      rw [hc]
      refine yG ?_
      refine LS.exit ?_
      refine yG ?_
      rfl
end Go.Proofs.Yteakbbnlkjckhaa
