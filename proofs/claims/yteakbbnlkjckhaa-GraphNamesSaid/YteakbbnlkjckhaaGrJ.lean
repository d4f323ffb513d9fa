/- Layer 15: Below, Above; what the laws lean on: in, Ints, large, same, copied, the document's May. -/
import Derived.Test.YteakbbnlkjckhaaGrI
namespace Go.Am
theorem sub_front (X L : RL) : Sub L (X ++ L) := ⟨X, List.perm_append_comm⟩
theorem OS.turnsJ {P : Program} {ops rest : List Oper} {o : Oper} {a : Slots} {L : RL} {K : Slots → RL → Prop} {R : Value → RL → Prop} (hw : wantedB ops o a = true) (e : ∀ h, Has h L → ∃ v h₁ L₁, opB P a o h = some (.val v h₁) ∧ Has h₁ L₁ ∧ R v L₁) (k : ∀ v L₁, R v L₁ → ∃ a₁, putAt a o.dst v = some a₁ ∧ OS P ops rest a₁ L₁ K) : OS P ops (o :: rest) a L K :=
  fun h H => let ⟨v, h₁, L₁, e₁, H₁, hR⟩ := e h H; let ⟨_, ep, k⟩ := k v L₁ hR; OQ.val hw e₁ ep (k h₁ H₁)
end Go.Am
namespace Go.Proofs.Yteakbbnlkjckhaa
open Go.Am Go.Gp
set_option linter.unusedVariables false
set_option linter.unusedSimpArgs false
set_option maxRecDepth 20000
set_option maxHeartbeats 4000000
attribute [local irreducible] OS LSr ODS CS
/-- A list that is told, or a refusal. -/
def Res (L : RL) (res : List Nat) (e : Nat) (u : Value) (L' : RL) : Prop := ∃ Y A c, L' = Y ++ L ∧ u = .tuple #[.slice A res.length c, .int .i64 (e : Nat)] ∧ SV 1 Y (.slice A res.length c) res.length (ns res)
theorem Res.no {L : RL} (e : Nat) : Res L [] e (.tuple #[.slice none 0 0, .int .i64 (e : Nat)]) L := ⟨[], none, 0, rfl, rfl, .inl ⟨rfl, rfl, rfl⟩⟩
def okT (Z : List (List Int)) (i : Int) : Bool := may Z && isT Z.length i
noncomputable def belowZ (Z : List (List Int)) (i : Int) : List Nat := if okT Z i then below (nat Z) i.toNat else []
noncomputable def aboveZ (Z : List (List Int)) (i : Int) : List Nat := if okT Z i then above (nat Z) i.toNat else []
theorem isT_nat {n : Nat} {i : Int} (h : isT n i = true) : ∃ k : Nat, i = (k : Nat) ∧ k < n := by
  simp [isT] at h
  exact ⟨i.toNat, by omega, by omega⟩
theorem may_len {Z : List (List Int)} (h : may Z = true) : (nat Z).length ≤ 4096 ∧ tot (nat Z) ≤ 65536 := by
  have := may_iff.1 h
  refine ⟨by rw [nat_len]; exact this.1, ?_⟩
  have e : tot (nat Z) = tot Z := by unfold tot nat; rw [List.map_map]; congr 1; exact List.map_congr_left fun w _ => by simp
  rw [e]; exact this.2.1
theorem Below_ct {L : RL} {v : Value} {Z : List (List Int)} (hv : NL L v (zv Z)) (i : Int) : CS Try.prog 13 [v, iZ i] L (Res L (belowZ Z i) (if okT Z i then 0 else 1)) := by
  obtain ⟨ics, hs, hg⟩ := hv.ofZ
  refine CS.mk (fn := Try.f13) rfl rfl rfl rfl ?_
  refine yG ?_
  refine OS.callS noGo rfl (fun _ => rfl) (mayBe_ct hv) rfl ?_
  rcases tf (may Z) with hm | hm
  rotate_left
  · have e : okT Z i = false := by unfold okT; rw [hm]; rfl
    have e2 : belowZ Z i = [] := by unfold belowZ; rw [e]; rfl
    rw [hm, e, e2]
    refine yG ?_
    exact Res.no 1
  rw [hm]
  refine yG ?_
  refine OS.callS noGo rfl (fun _ => rfl) (isThing_ct hs i) rfl ?_
  rcases tf (isT Z.length i) with ht | ht
  rotate_left
  · have e : okT Z i = false := by unfold okT; rw [ht, hm]; rfl
    have e2 : belowZ Z i = [] := by unfold belowZ; rw [e]; rfl
    rw [ht, e, e2]
    refine yG ?_
    exact Res.no 1
  have e : okT Z i = true := by unfold okT; rw [ht, hm]; rfl
  obtain ⟨k, rfl, hk⟩ := isT_nat ht
  have e2 : belowZ Z (k : Nat) = below (nat Z) k := by unfold belowZ; rw [e]; simp
  obtain ⟨h1, h2⟩ := may_len hm
  rw [zv_nat hm] at hv
  rw [ht, e, e2]
  refine yG ?_
  refine OS.call noGo rfl (fun _ => rfl) ((reach_ct hv (nat_ok hm) h1 (fun i hi => Nat.le_trans (tot_mem (at_nd hi)) h2) (by rw [nat_len]; exact hk)).mono ?_)
  rintro u L2 ⟨Y, rfl, hgv⟩
  obtain ⟨A, c, rfl⟩ := hgv.sv.form
  refine yG ?_
  exact ⟨Y, A, c, rfl, rfl, hgv.sv⟩
theorem Above_ct {L : RL} {v : Value} {Z : List (List Int)} (hv : NL L v (zv Z)) (i : Int) : CS Try.prog 14 [v, iZ i] L (Res L (aboveZ Z i) (if okT Z i then 0 else 1)) := by
  obtain ⟨ics, hs, hg⟩ := hv.ofZ
  refine CS.mk (fn := Try.f14) rfl rfl rfl rfl ?_
  refine yG ?_
  refine OS.callS noGo rfl (fun _ => rfl) (mayBe_ct hv) rfl ?_
  rcases tf (may Z) with hm | hm
  rotate_left
  · have e : okT Z i = false := by unfold okT; rw [hm]; rfl
    have e2 : aboveZ Z i = [] := by unfold aboveZ; rw [e]; rfl
    rw [hm, e, e2]
    refine yG ?_
    exact Res.no 1
  rw [hm]
  refine yG ?_
  refine OS.callS noGo rfl (fun _ => rfl) (isThing_ct hs i) rfl ?_
  rcases tf (isT Z.length i) with ht | ht
  rotate_left
  · have e : okT Z i = false := by unfold okT; rw [ht, hm]; rfl
    have e2 : aboveZ Z i = [] := by unfold aboveZ; rw [e]; rfl
    rw [ht, e, e2]
    refine yG ?_
    exact Res.no 1
  have e : okT Z i = true := by unfold okT; rw [ht, hm]; rfl
  obtain ⟨k, rfl, hk⟩ := isT_nat ht
  have e2 : aboveZ Z (k : Nat) = above (nat Z) k := by unfold aboveZ; rw [e]; simp
  obtain ⟨h1, h2⟩ := may_len hm
  rw [zv_nat hm] at hv
  rw [ht, e, e2]
  refine yG ?_
  refine OS.call noGo rfl (fun _ => rfl) ((needers_ct hv (nat_ok hm) h1 h2).mono ?_)
  rintro u L2 ⟨R, Y, rfl, hR, hT, htR⟩
  refine yG ?_
  refine OS.call noGo rfl (fun _ => rfl) ((reach_ct (hR.mono fun p hp => List.mem_append_left _ hp) (hT.ok (nat_ok hm)) (by rw [hT.1]; exact h1) htR (by rw [hT.1, nat_len]; exact hk)).mono ?_)
  rintro u2 L2 ⟨Y2, rfl, hgv⟩
  rw [hT.above (nat_ok hm)] at hgv
  obtain ⟨A, c, rfl⟩ := hgv.sv.form
  refine yG ?_
  exact ⟨Y2 ++ Y, A, c, by simp, rfl, hgv.sv.mono fun p hp => List.mem_append_left _ hp⟩
theorem Ints_ct {L : RL} {a b : Value} {xs : List Int} (ha : SV 1 L a xs.length (zs xs)) (hb : SV 1 L b xs.length (zs xs)) (hm : xs.length ≤ 140737488355328) : CS Try.prog 11 [a, b] L fun v L' => v = .bool true ∧ L' = L := by
  refine CS.mk (fn := Try.f11) rfl rfl rfl rfl ?_
  have hne : (!ieqB ((xs.length : Nat) : Int) (xs.length : Nat)) = false := by rw [ieqB_eq]; simp
  refine yG ?_
  refine LS.loopJ [0, 1, 5] (fun q s L' => ∃ i : Nat, q = xs.length - i ∧ i ≤ xs.length ∧ L' = L ∧ s = [a, b, .chan none, .chan none, .chan none, iN i, .chan none, .chan none, .chan none, .chan none, .chan none, .chan none, .chan none, .chan none, .chan none, .chan none, .chan none, .chan none, .chan none, .chan none, .chan none, .chan none, .chan none, .chan none, .chan none, .chan none]) (n := xs.length) rfl ⟨0, rfl, by omega, rfl, rfl⟩ ?_
  rintro q s L' ⟨i, rfl, hi, hL, rfl⟩
  rw [hL]
  clear hL
  by_cases hin : i < xs.length
  · have hbi : (!ileB ((xs.length : Nat) : Int) (i : Nat)) = true := by rw [ileB_eq]; simp; omega
    obtain ⟨k, hk⟩ := ext_list hin
    have hnk : (!ieqB k k) = false := by rw [ieqB_eq]; simp
    refine yG ?_
    repeat refine LS.seq ?_
    refine LS.drawn noGo mixed [(0, false), (1, false), (2, false), (3, false), (4, false), (5, false), (6, false), (7, false), (8, false)] rfl rfl (by kernel_rfl) ?_
    refine yG ?_
    refine ODS.at1 (j := i) (ha) (zs_at hk) rfl rfl rfl rfl rfl rfl rfl (fun ra0 oa0 rowa0 csa0 ma0 ca0 ga0 => ⟨_, rfl, ?_⟩)
    refine ODS.read rfl rfl (e_loadm ma0 ca0 rfl rfl (part_one rfl ga0)) rfl ?_
    refine yG ?_
    refine ODS.at1 (j := i) (hb) (zs_at hk) rfl rfl rfl rfl rfl rfl rfl (fun ra1 oa1 rowa1 csa1 ma1 ca1 ga1 => ⟨_, rfl, ?_⟩)
    refine ODS.read rfl rfl (e_loadm ma1 ca1 rfl rfl (part_one rfl ga1)) rfl ?_
    refine yG ?_
    exact ⟨xs.length - (i + 1), by omega, i + 1, rfl, by omega, rfl, rfl⟩
  · have hbi : (!ileB ((xs.length : Nat) : Int) (i : Nat)) = false := by rw [ileB_eq]; simp; omega
    refine yG ?_
    refine LS.exit ?_
    refine yG ?_
    exact ⟨rfl, rfl⟩
theorem IntsN_ct {L : RL} {a b : Value} {xs : List Nat} (ha : SV 1 L a xs.length (ns xs)) (hb : SV 1 L b xs.length (ns xs)) (hm : xs.length ≤ 140737488355328) : CS Try.prog 11 [a, b] L fun v L' => v = .bool true ∧ L' = L := by
  rw [ns_zs] at ha hb
  exact Ints_ct (xs := xs.map Int.ofNat) (by simpa using ha) (by simpa using hb) (by simpa using hm)
/-- Small enough to be looked at. -/
def Fits (Z : List (List Int)) : Prop := Z.length ≤ 140737488355328 ∧ ∀ w, w ∈ Z → w.length ≤ 140737488355328
theorem large_ct {L : RL} {v : Value} {Z : List (List Int)} (hv : NL L v (zv Z)) (hf : Fits Z) (most : Nat) (hmo : most ≤ 1000) : CS Try.prog 15 [v, iN most] L fun u L' => ∃ b, u = .bool b ∧ (b = false → Z.length ≤ most ∧ tot Z + Z.length ≤ 10 * most) ∧ L' = L := by
  obtain ⟨ics, hs, hg⟩ := hv.ofZ
  have hZl := hf.1
  refine CS.mk (fn := Try.f15) rfl rfl rfl rfl ?_
  refine yG ?_
  refine LS.loopJ [0, 1, 5, 6] (fun q s L' => ∃ i : Nat, q = Z.length - i ∧ i ≤ Z.length ∧ tot (Z.take i) + i ≤ 10 * most + 1 + 140737488355328 ∧ L' = L ∧ s = [v, iN most, .chan none, .chan none, .chan none, iN (tot (Z.take i) + i), iN i, .chan none, .chan none, .chan none, .chan none, .chan none, .chan none, .chan none, .chan none, .chan none, .chan none, .chan none, .chan none, .chan none, .chan none, .chan none, .chan none, .chan none, .chan none, .chan none, .chan none, .chan none, .chan none, .chan none, .chan none, .chan none, .chan none, .chan none, .chan none, .chan none, .chan none]) (n := Z.length) rfl ⟨0, rfl, by omega, by simp [tot], rfl, by simp [tot]; rfl⟩ ?_
  rintro q s L' ⟨i, rfl, hi, hb0, hL, rfl⟩
  rw [hL]
  clear hL
  by_cases hin : i < Z.length
  · have hbi : (!ileB ((Z.length : Nat) : Int) (i : Nat)) = true := by rw [ileB_eq]; simp; omega
    obtain ⟨w, hw⟩ := ext_list hin
    obtain ⟨b, hb, hsw⟩ := hg i w hw
    have hts := tot_succ hw
    have hwl := hf.2 w (List.mem_of_getElem? hw)
    refine yG ?_
    refine OS.pure rfl (e_is (v' := iN (10 * most)) (e_mul (m := (10 : Int)) (n := (most : Int)) rfl rfl rfl (in_i64 (by omega) (by omega))) (by simp)) rfl ?_
    by_cases hle : tot (Z.take i) + i ≤ 10 * most
    · have hb2 : ileB ((tot (Z.take i) + i : Nat) : Int) ((10 * most : Nat) : Int) = true := by rw [ileB_eq]; simp; omega
      refine yG ?_
      refine OS.at1 (j := i) (hs) (hb) rfl rfl rfl rfl rfl rfl (fun ra0 oa0 rowa0 csa0 ma0 ca0 ga0 => ⟨_, rfl, ?_⟩)
      refine OS.read rfl (e_loadm ma0 ca0 rfl rfl (part_one rfl ga0)) rfl ?_
      refine yG ?_
      rw [show tot (Z.take i) + i + 1 + w.length = tot (Z.take (i + 1)) + (i + 1) by omega]
      refine ⟨Z.length - (i + 1), by omega, i + 1, rfl, by omega, by omega, rfl, rfl⟩
    · have hb2 : ileB ((tot (Z.take i) + i : Nat) : Int) ((10 * most : Nat) : Int) = false := by rw [ileB_eq]; simp; omega
      refine yG ?_
      refine LS.exit ?_
      by_cases hgm : most < Z.length
      · have hb3 : (!ileB ((Z.length : Nat) : Int) ((most : Nat) : Int)) = true := by rw [ileB_eq]; simp; omega
        refine yG ?_
        exact ⟨fun h => (by cases h), rfl⟩
      · have hb3 : (!ileB ((Z.length : Nat) : Int) ((most : Nat) : Int)) = false := by rw [ileB_eq]; simp; omega
        have hb4 : (!ileB ((tot (Z.take i) + i : Nat) : Int) ((10 * most : Nat) : Int)) = true := by rw [hb2]; rfl
        refine yG ?_
        refine OS.pure rfl (e_is (v' := iN (10 * most)) (e_mul (m := (10 : Int)) (n := (most : Int)) rfl rfl rfl (in_i64 (by omega) (by omega))) (by simp)) rfl ?_
        refine yG ?_
        exact ⟨fun h => (by cases h), rfl⟩
  · have hbi : (!ileB ((Z.length : Nat) : Int) (i : Nat)) = false := by rw [ileB_eq]; simp; omega
    obtain rfl : i = Z.length := by omega
    rw [tot_all (Nat.le_refl _)] at hb0 ⊢
    by_cases hgm : most < Z.length
    · have hb3 : (!ileB ((Z.length : Nat) : Int) ((most : Nat) : Int)) = true := by rw [ileB_eq]; simp; omega
      refine yG ?_
      refine LS.exit ?_
      refine yG ?_
      exact ⟨fun h => (by cases h), rfl⟩
    · have hb3 : (!ileB ((Z.length : Nat) : Int) ((most : Nat) : Int)) = false := by rw [ileB_eq]; simp; omega
      by_cases hle : tot Z + Z.length ≤ 10 * most
      · have hb4 : (!ileB ((tot Z + Z.length : Nat) : Int) ((10 * most : Nat) : Int)) = false := by rw [ileB_eq]; simp; omega
        refine yG ?_
        refine LS.exit ?_
        refine yG ?_
        refine OS.pure rfl (e_is (v' := iN (10 * most)) (e_mul (m := (10 : Int)) (n := (most : Int)) rfl rfl rfl (in_i64 (by omega) (by omega))) (by simp)) rfl ?_
        refine yG ?_
        exact ⟨fun h => ⟨by omega, by omega⟩, rfl⟩
      · have hb4 : (!ileB ((tot Z + Z.length : Nat) : Int) ((10 * most : Nat) : Int)) = true := by rw [ileB_eq]; simp; omega
        refine yG ?_
        refine LS.exit ?_
        refine yG ?_
        refine OS.pure rfl (e_is (v' := iN (10 * most)) (e_mul (m := (10 : Int)) (n := (most : Int)) rfl rfl rfl (in_i64 (by omega) (by omega))) (by simp)) rfl ?_
        refine yG ?_
        exact ⟨fun h => (by cases h), rfl⟩
theorem same_ct {L : RL} {a b : Value} {Z : List (List Int)} (ha : NL L a (zv Z)) (hb : NL L b (zv Z)) (hf : Fits Z) : CS Try.prog 19 [a, b] L fun u L' => u = .bool true ∧ L' = L := by
  obtain ⟨ics, hs, hg⟩ := ha.ofZ
  obtain ⟨jcs, hs2, hg2⟩ := hb.ofZ
  have hZl := hf.1
  refine CS.mk (fn := Try.f19) rfl rfl rfl rfl ?_
  have hne : (!ieqB ((Z.length : Nat) : Int) (Z.length : Nat)) = false := by rw [ieqB_eq]; simp
  refine yG ?_
  refine LS.loopJ [0, 1, 5] (fun q s L' => ∃ i : Nat, q = Z.length - i ∧ i ≤ Z.length ∧ L' = L ∧ s = [a, b, .chan none, .chan none, .chan none, iN i, .chan none, .chan none, .chan none, .chan none, .chan none, .chan none, .chan none, .chan none, .chan none, .chan none, .chan none, .chan none, .chan none, .chan none, .chan none, .chan none, .chan none, .chan none, .chan none, .chan none, .chan none]) (n := Z.length) rfl ⟨0, rfl, by omega, rfl, rfl⟩ ?_
  rintro q s L' ⟨i, rfl, hi, hL, rfl⟩
  rw [hL]
  clear hL
  by_cases hin : i < Z.length
  · have hbi : (!ileB ((Z.length : Nat) : Int) (i : Nat)) = true := by rw [ileB_eq]; simp; omega
    obtain ⟨w, hw⟩ := ext_list hin
    obtain ⟨x, hx, hsx⟩ := hg i w hw
    obtain ⟨y, hy, hsy⟩ := hg2 i w hw
    have hwl := hf.2 w (List.mem_of_getElem? hw)
    refine yG ?_
    repeat refine LS.seq ?_
    refine LS.drawn noGo mixed [(0, false), (1, false), (2, false), (3, false), (4, false), (5, false), (6, false), (7, false), (8, true), (9, false)] rfl rfl (by kernel_rfl) ?_
    refine yG ?_
    refine ODS.at1 (j := i) (hs) (hx) rfl rfl rfl rfl rfl rfl rfl (fun ra0 oa0 rowa0 csa0 ma0 ca0 ga0 => ⟨_, rfl, ?_⟩)
    refine ODS.read rfl rfl (e_loadm ma0 ca0 rfl rfl (part_one rfl ga0)) rfl ?_
    refine yG ?_
    refine ODS.at1 (j := i) (hs2) (hy) rfl rfl rfl rfl rfl rfl rfl (fun ra1 oa1 rowa1 csa1 ma1 ca1 ga1 => ⟨_, rfl, ?_⟩)
    refine ODS.read rfl rfl (e_loadm ma1 ca1 rfl rfl (part_one rfl ga1)) rfl ?_
    refine ODS.call rfl rfl (fun _ => rfl) ((Ints_ct hsx hsy hwl).mono ?_)
    rintro u L2 ⟨rfl, hL⟩
    rw [hL]
    clear hL
    refine ⟨_, rfl, Keep.gone rfl (Keep.gone rfl Keep.nil), ?_⟩
    refine yG ?_
    exact ⟨Z.length - (i + 1), by omega, i + 1, rfl, by omega, rfl, rfl⟩
  · have hbi : (!ileB ((Z.length : Nat) : Int) (i : Nat)) = false := by rw [ileB_eq]; simp; omega
    refine yG ?_
    refine LS.exit ?_
    refine yG ?_
    exact ⟨rfl, rfl⟩
end Go.Proofs.Yteakbbnlkjckhaa
