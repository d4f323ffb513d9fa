/- Layer 14: the law MatrixNames. -/
import Derived.Test.YtllcbjaajffaeaaMr
namespace Go.Am
section
variable {P : Program} {o : Oper} {a : Slots} {L : RL}
theorem e_appendF {c : Call} {e : TypeId} {sz bts n m r : Nat} {x : Value} {cs new : List Value} (hs : SV sz L x m new) (hm : 0 < m) (hrow : (r, .cells e cs) ∈ L) (hl : cs.length = n * sz) (hn : n < openCap) (hone : allOne new = true) (ho : o.op = .call c) (hT : appT P c = some (e, sz, bts)) (ha : evs a c.args.toList = some [.slice (some ⟨r, 0, none⟩) n n, x])
    (hsm : (n + m + n) * bts ≤ 140737488355328) (hsm2 : n + m ≤ 140737488355328) :
    ∀ h, Has h L → ∃ r' h₁, opB P a o h = some (.val (.slice (some ⟨r', 0, none⟩) (n + m) openCap) h₁) ∧ Has h₁ ((r', .cells e (cs ++ new)) :: L) := by
  intro h H
  have hn1 := hs.lenB
  have hf : firstB sz m x h = some new := hs.first H
  have hf0 : firstB sz n (.slice (some ⟨r, 0, none⟩) n n) h = some cs := (SV.row (sz := sz) (n := n) (cap := n) hrow hl).first H
  have hone' : (allOne new && (notText x || Nat.beq sz 1)) = true := by rw [hone, hs.notText]; rfl
  unfold appT at hT
  split at hT
  case h_2 => cases hT
  rename_i hcal
  split at hT
  case h_2 => cases hT
  rename_i st xt hst hxt
  split at hT
  case h_2 => cases hT
  rename_i e' xd hu1 hu2
  have hxd : (∀ k, xd = .int k → False) ∧ ∃ i, P.info? e' = some i ∧ zeroFits P e' = true ∧ e' = e ∧ i.size = sz ∧ i.bytes = bts := by
    split at hT
    · cases hT
    · rename_i hno
      split at hT
      case h_2 => cases hT
      rename_i i hi hz
      simp at hT
      obtain ⟨rfl, rfl, rfl⟩ := hT
      exact ⟨fun k hk => hno k hk, i, hi, hz, rfl, rfl, rfl⟩
  obtain ⟨hno, i, hi, hz, rfl, rfl, rfl⟩ := hxd
  obtain ⟨h₁, e₁⟩ := h.new_some (.cells e' (cs ++ new))
  refine ⟨h.next, h₁, ?_, H.new e₁⟩
  have hs' : sizeB P e' = some i.size := by unfold sizeB; rw [hi]
  have b2 : Nat.ble (n + m) 140737488355328 = true := Nat.ble_eq_true_of_le hsm2
  have hgrow : growB P h e' (n + m) cs new = some (.slice (some ⟨h.next, 0, none⟩) (n + m) openCap, h₁) := by
    simp only [growB, join_of, hz, b2, Bool.and_self, newCells, hs', e₁]
  simp only [opB, ho, ha, callOpB, hcal, appendB, hst, hxt, hu1, hu2]
  cases xd <;> first | exact (hno _ rfl).elim | skip
  all_goals
    simp only [hi, hn1, hf, hone']
    have hc : Nat.beq n openCap = false := beq_false (by omega)
    have b0 : Nat.ble (n + m) n = false := by
      cases hb : Nat.ble (n + m) n with
      | false => rfl
      | true => have := of_ble hb; omega
    have b1 : smallB (n + m + n) i.bytes = true := by unfold smallB; exact Nat.ble_eq_true_of_le hsm
    simp only [hc, b0, hf0, b1, hgrow, ret2]
end
end Go.Am
namespace Go.Proofs.Ytllcbjaajffaeaa
open Go.Am Go.Mx
set_option linter.unusedVariables false
set_option linter.unusedSimpArgs false
set_option maxRecDepth 20000
set_option maxHeartbeats 4000000
attribute [local irreducible] OS LSr ODS CS YS OGS OT
def fv : List W := [[49], [50], [51], [52], [53]]
def nl1 : List Ax := [([111, 115], fv), ([111, 115], fv)]
def nl2 : List Ax := [([111, 115], [])]
def nl3 : List Ax := [([97], fv), ([98], fv)]
def nl4 : List Ax := [([97], [[49], [50], [51], [52]]), ([98], [[49], [50], [51], [52], [53], [54]])]
theorem nc1 : chk nl1 = 6 := by decide
theorem nc2 : chk nl2 = 1 := by decide
theorem nc3 : chk nl3 = 3 := by decide
theorem nc4 : chk nl4 = 0 := by decide
theorem nn4 : cnt (nsA nl4) = 24 := by decide
theorem nc5 : chk [] = 0 := by decide
theorem nn5 : cnt (nsA []) = 1 := by decide
theorem np1 : ps 58 [] [97, 92, 98] = none := by rfl
theorem np2 : ps 58 [] [97, 58] = some [[97], []] := by rfl
theorem np3 : ps 58 [] [97, 92] = none := by rfl
theorem np4 : ps 58 [] [97, 58, 98, 58, 99] = some [[97], [98, 58, 99]] := by rfl
theorem np5 : ps 58 [] [97, 58, 92, 58] = none := by rfl
theorem namesLaw_ct {L : RL} : CS Try.prog 6 [] L fun u _ => u = .bool true := by
  have aw : ∀ L : RL, CS Try.prog 14 [] L fun v L' => v = .bool true ∧ L' = L := fun L => awake_ct
  refine CS.mk (fn := Try.f6) rfl rfl rfl rfl ?_
  refine yG ?_
  refine OS.fresh rfl (e_new (fun _ => rfl) rfl) (fun _ => rfl) (fun r5 => ?_)
  have h5 : (r5, ARow.cells 9 (strs fv)) ∈ (r5, ARow.cells 9 (strs fv)) :: L := List.mem_cons_self ..
  show OS _ _ _ _ ((r5, ARow.cells 9 (strs fv)) :: L) _
  generalize (r5, ARow.cells 9 (strs fv)) :: L = M0 at h5
  refine yG ?_
  refine OS.fresh rfl (e_new (fun _ => rfl) rfl) (fun _ => rfl) (fun r33 => ?_)
  refine yG ?_
  have s5 : ∀ {M : RL}, (∀ p, p ∈ M0 → p ∈ M) → SV 1 M (.slice (some ⟨r5, 0, none⟩) 5 5) fv.length (strs fv) := fun hm => SV.row (hm _ h5) rfl
  refine OS.call noGo rfl (fun _ => rfl) ((Rows_ct (l := nl1) (SV.row (r := r33) (cap := 2) (List.mem_cons_self ..) rfl) ⟨_, _, rfl, s5 (fun p hp => List.mem_cons_of_mem _ hp), _, _, rfl, s5 (fun p hp => List.mem_cons_of_mem _ hp), rfl⟩ (by decide) (by decide)).mono ?_)
  rintro v' L2 (⟨_, rfl, hL⟩ | ⟨h0, _⟩)
  rotate_left
  · exact absurd (nc1.symm.trans h0) (by decide)
  rw [hL, nc1]
  clear hL
  have h5 := List.mem_cons_of_mem (r33, ARow.cells tA [str [111, 115], .slice (some ⟨r5, 0, none⟩) 5 5, str [111, 115], .slice (some ⟨r5, 0, none⟩) 5 5]) h5
  clear s5
  generalize hM1 : (r33, ARow.cells tA [str [111, 115], .slice (some ⟨r5, 0, none⟩) 5 5, str [111, 115], .slice (some ⟨r5, 0, none⟩) 5 5]) :: M0 = M1 at h5 ⊢
  clear hM1
  refine yG ?_
  refine OS.fresh rfl (e_new (fun _ => rfl) rfl) (fun _ => rfl) (fun r39 => ?_)
  refine yG ?_
  refine OS.call noGo rfl (fun _ => rfl) ((Rows_ct (l := nl2) (SV.row (r := r39) (cap := 1) (List.mem_cons_self ..) rfl) ⟨_, _, rfl, .inl ⟨rfl, rfl, rfl⟩, rfl⟩ (by decide) (by decide)).mono ?_)
  rintro v' L2 (⟨_, rfl, hL⟩ | ⟨h0, _⟩)
  rotate_left
  · exact absurd (nc2.symm.trans h0) (by decide)
  rw [hL, nc2]
  clear hL
  have h5 := List.mem_cons_of_mem (r39, ARow.cells tA [str [111, 115], .slice none 0 0]) h5
  generalize hM2 : (r39, ARow.cells tA [str [111, 115], .slice none 0 0]) :: M1 = M2 at h5 ⊢
  clear hM2
  refine yG ?_
  refine OS.fresh rfl (e_new (fun _ => rfl) rfl) (fun _ => rfl) (fun r48 => ?_)
  refine yG ?_
  have s5 : ∀ {M : RL}, (∀ p, p ∈ M2 → p ∈ M) → SV 1 M (.slice (some ⟨r5, 0, none⟩) 5 5) fv.length (strs fv) := fun hm => SV.row (hm _ h5) rfl
  refine OS.call noGo rfl (fun _ => rfl) ((Rows_ct (l := nl3) (SV.row (r := r48) (cap := 2) (List.mem_cons_self ..) rfl) ⟨_, _, rfl, s5 (fun p hp => List.mem_cons_of_mem _ hp), _, _, rfl, s5 (fun p hp => List.mem_cons_of_mem _ hp), rfl⟩ (by decide) (by decide)).mono ?_)
  rintro v' L2 (⟨_, rfl, hL⟩ | ⟨h0, _⟩)
  rotate_left
  · exact absurd (nc3.symm.trans h0) (by decide)
  rw [hL, nc3]
  clear hL
  have h5 := List.mem_cons_of_mem (r48, ARow.cells tA [str [97], .slice (some ⟨r5, 0, none⟩) 5 5, str [98], .slice (some ⟨r5, 0, none⟩) 5 5]) h5
  clear s5
  generalize hM3 : (r48, ARow.cells tA [str [97], .slice (some ⟨r5, 0, none⟩) 5 5, str [98], .slice (some ⟨r5, 0, none⟩) 5 5]) :: M2 = M3 at h5 ⊢
  clear hM3
  refine yG ?_
  repeat refine LS.seq ?_
  refine LS.drawn noGo mixed [(0, false), (1, false), (2, false), (3, false), (4, true), (5, true), (6, false), (7, true), (8, true), (9, false), (10, false), (11, false), (12, false), (13, false)] rfl rfl (by kernel_rfl) ?_
  refine yG ?_
  refine ODS.pure rfl rfl (e_sliceC0 (u := 4) rfl rfl rfl rfl rfl (by omega) (by decide)) rfl ?_
  refine yG ?_
  refine ODS.fresh rfl rfl (e_new (fun _ => rfl) rfl) (fun _ => rfl) (fun _ => Keep.nil) (fun r57 => ?_)
  refine ODS.fresh rfl rfl (e_appendF (n := 5) (m := 1) (sz := 1) (bts := 16) (SV.row (r := r57) (e := 9) (cs := [str [54]]) (List.mem_cons_self ..) rfl) (by omega) (List.mem_cons_of_mem _ h5) rfl (by decide) rfl rfl rfl rfl (by omega) (by omega)) (fun _ => rfl) (fun _ => Keep.nil) (fun r58 => ?_)
  refine yG ?_
  refine ODS.fresh rfl rfl (e_new (fun _ => rfl) rfl) (fun _ => rfl) (fun _ => Keep.nil) (fun r60 => ?_)
  refine ODS.call rfl rfl (fun _ => rfl) ((Rows_ct (l := nl4) (SV.row (r := r60) (cap := 2) (List.mem_cons_self ..) rfl) ⟨_, _, rfl, .inr ⟨r5, 0, 5, _, _, rfl, List.mem_cons_of_mem _ (List.mem_cons_of_mem _ (List.mem_cons_of_mem _ h5)), rfl, rfl⟩, _, _, rfl, SV.row (r := r58) (e := 9) (List.mem_cons_of_mem _ (List.mem_cons_self ..)) rfl, rfl⟩ (by decide) (by decide)).mono ?_)
  rintro v' L2 (⟨h0, _⟩ | ⟨_, A4, c4, t4, HY4, rfl, _, _, hL⟩)
  · exact absurd nc4 h0
  rw [nn4]
  clear hL
  refine ⟨_, rfl, Keep.nil, ?_⟩
  refine yG ?_
  refine OS.call noGo rfl (fun _ => rfl) ((Rows_ct (l := []) (L := L2) (.inl ⟨rfl, rfl, rfl⟩) rfl (by decide) (by decide)).mono ?_)
  rintro v' L3 (⟨h0, _⟩ | ⟨_, A5, c5, t5, HY5, rfl, ht5, hg5, hL⟩)
  · exact absurd nc5 h0
  rw [nn5] at hg5 ⊢
  obtain ⟨r5', hr5⟩ := map_at ht5 (i := 0) (w := []) rfl
  have hf1 : SV 1 L3 (.slice A5 1 c5) 1 (rvs t5) := hg5.sv.mono fun p hp => by rw [hL]; exact List.mem_append_left _ hp
  have hf2 := rvs_at hr5
  clear hg5 hL ht5
  refine yG ?_
  refine OS.call noGo rfl (fun _ => rfl) ((Parse_ct [97, 92, 98] (by decide)).mono ?_)
  rw [np1]
  rintro v' L4 ⟨rfl, Z, hL⟩
  have hf1 : SV 1 L4 (.slice A5 1 c5) 1 (rvs t5) := hf1.mono fun p hp => by rw [hL]; exact List.mem_append_right _ hp
  clear hL
  refine yG ?_
  refine OS.call noGo rfl (fun _ => rfl) ((Parse_ct [97, 58] (by decide)).mono ?_)
  rw [np2]
  rintro v' L5 ⟨A6, c6, rfl, hg6⟩
  have hf1 := hf1.mono hg6.mem
  have hj1 := hg6.sv
  clear hg6
  refine yG ?_
  refine OS.call noGo rfl (fun _ => rfl) ((Parse_ct [97, 92] (by decide)).mono ?_)
  rw [np3]
  rintro v' L6 ⟨rfl, Z, hL⟩
  have hf1 : SV 1 L6 (.slice A5 1 c5) 1 (rvs t5) := hf1.mono fun p hp => by rw [hL]; exact List.mem_append_right _ hp
  have hj1 := hj1.mono (L' := L6) fun p hp => by rw [hL]; exact List.mem_append_right _ hp
  clear hL
  refine yG ?_
  refine OS.call noGo rfl (fun _ => rfl) ((Parse_ct [97, 58, 98, 58, 99] (by decide)).mono ?_)
  rw [np4]
  rintro v' L7 ⟨A7, c7, rfl, hg7⟩
  have hf1 := hf1.mono hg7.mem
  have hj1 := hj1.mono hg7.mem
  have ho1 := hg7.sv
  clear hg7
  refine yG ?_
  refine OS.call noGo rfl (fun _ => rfl) ((Parse_ct [97, 58, 92, 58] (by decide)).mono ?_)
  rw [np5]
  rintro v' L8 ⟨rfl, Z, hL⟩
  have hf1 : SV 1 L8 (.slice A5 1 c5) 1 (rvs t5) := hf1.mono fun p hp => by rw [hL]; exact List.mem_append_right _ hp
  have hj1 := hj1.mono (L' := L8) fun p hp => by rw [hL]; exact List.mem_append_right _ hp
  have ho1 := ho1.mono (L' := L8) fun p hp => by rw [hL]; exact List.mem_append_right _ hp
  clear hL
  refine yG ?_
  refine OS.at1 (j := 0) (hf1) (hf2) rfl rfl rfl rfl rfl rfl (fun ra0 oa0 rowa0 csa0 ma0 ca0 ga0 => ⟨_, rfl, ?_⟩)
  refine OS.read rfl (e_loadm ma0 ca0 rfl rfl (part_one rfl ga0)) rfl ?_
  refine yG ?_
  refine OS.at1 (j := 0) (hj1) (strs_at (ws := [[]]) (j := 0) (w := []) rfl) rfl rfl rfl rfl rfl rfl (fun ra2 oa2 rowa2 csa2 ma2 ca2 ga2 => ⟨_, rfl, ?_⟩)
  refine OS.read rfl (e_loadm ma2 ca2 rfl rfl (part_one rfl ga2)) rfl ?_
  refine yG ?_
  refine OS.at1 (j := 0) (ho1) (strs_at (ws := [[98, 58, 99]]) (j := 0) (w := [98, 58, 99]) rfl) rfl rfl rfl rfl rfl rfl (fun ra3 oa3 rowa3 csa3 ma3 ca3 ga3 => ⟨_, rfl, ?_⟩)
  refine OS.read rfl (e_loadm ma3 ca3 rfl rfl (part_one rfl ga3)) rfl ?_
  refine yG ?_
  refine OS.fresh rfl (e_new (fun _ => rfl) rfl) (fun _ => rfl) (fun r179 => ?_)
  refine yG ?_
  refine OS.call noGo rfl (fun _ => rfl) ((Label_ct (n := [97, 58, 98]) (row := [[99, 44, 100], [101, 92]]) (SV.row (r := r179) (e := 9) (List.mem_cons_self ..) rfl) (by decide) (by decide)).mono ?_)
  rintro v' L9 ⟨rfl, hL⟩
  rw [hL]
  clear hL
  refine yG ?_
  refine OS.call noGo rfl (fun _ => rfl) ((aw _).mono ?_)
  rintro v' L9 ⟨rfl, hL⟩
  refine yG ?_
  rfl
end Go.Proofs.Ytllcbjaajffaeaa
