/- Layer 15: copied; the document's May, in, Below, Above. -/
import Derived.Test.YteakbbnlkjckhaaGrJ
namespace Go.Proofs.Yteakbbnlkjckhaa
open Go.Am Go.Gp
set_option linter.unusedVariables false
set_option linter.unusedSimpArgs false
set_option maxRecDepth 20000
set_option maxHeartbeats 4000000
attribute [local irreducible] OS LSr ODS CS
theorem GV.appR {e : TypeId} {sz n : Nat} {L : RL} {v : Value} {cs : List Value} (F : RL) (g : GV e sz [] v n cs L) : GV e sz F v n cs (L ++ F) := by
  have := GV.appendR F g
  rwa [List.nil_append] at this
theorem copied_ct {L : RL} {v : Value} {Z : List (List Int)} (hv : NL L v (zv Z)) (hn : Z.length ≤ 1000000) (ht : tot Z ≤ 1000000) : CS Try.prog 16 [v] L fun u L' => ∃ Y, L' = Y ++ L ∧ NL Y u (zv Z) := by
  suffices h : CS Try.prog 16 [v] L fun u L' => ∃ L₁, Sub L₁ L' ∧ ∃ Y, L₁ = Y ++ L ∧ NL Y u (zv Z) from h.less fun v L' h => h
  obtain ⟨ics, hs, hg⟩ := hv.ofZ
  refine CS.mk (fn := Try.f16) rfl rfl rfl rfl ?_
  refine yG ?_
  refine LS.loopJ [0, 3, 4] (fun q a L' => ∃ (i : Nat) (lv : Value) (C : List Value) (HY Y : RL), q = Z.length - i ∧ i ≤ Z.length ∧ C.length = i ∧ GV tN 1 [] lv i C HY ∧ (∀ (j : Nat) (w : List Int), j < i → Z[j]? = some w → ∃ b, C[j]? = some b ∧ SV 1 Y b w.length (zs w)) ∧ L' = HY ++ (Y ++ L) ∧ a = [v, .chan none, .chan none, lv, iN i, .chan none, .chan none, .chan none, .chan none, .chan none, .chan none, .chan none, .chan none, .chan none, .chan none, .chan none, .chan none, .chan none, .chan none, .chan none, .chan none]) (n := Z.length) rfl ⟨0, .slice none 0 0, [], [], [], rfl, by omega, rfl, .nil, fun j w h => by omega, rfl, rfl⟩ ?_
  rintro q a L' ⟨i, lv, C, HY, Y, rfl, hi, hC, hgv, hall, rfl, rfl⟩
  have hs1 : SV 1 (HY ++ (Y ++ L)) v Z.length ics := hs.mono fun p hp => List.mem_append_right _ (List.mem_append_right _ hp)
  by_cases hin : i < Z.length
  · have hbi : (!ileB ((Z.length : Nat) : Int) (i : Nat)) = true := by rw [ileB_eq]; simp; omega
    obtain ⟨w, hw⟩ := ext_list hin
    obtain ⟨b, hb, hsw⟩ := hg i w hw
    have hwl := tot_mem hw
    have hlast : ∀ (val : Value) (G : RL), SV 1 (G ++ Y) val w.length (zs w) → ∀ (j : Nat) (w' : List Int), j < i + 1 → Z[j]? = some w' → ∃ b, (C ++ [val])[j]? = some b ∧ SV 1 (G ++ Y) b w'.length (zs w') := fun val G hvl j w' hj hw' => by
      by_cases hji : j < i
      · obtain ⟨b', h1, h2⟩ := hall j w' hji hw'
        exact ⟨b', by rw [List.getElem?_append_left (by omega)]; exact h1, h2.mono fun p hp => List.mem_append_right _ hp⟩
      · obtain rfl : j = i := by omega
        rw [hw] at hw'
        simp only [Option.some.injEq] at hw'
        subst hw'
        exact ⟨val, by rw [List.getElem?_append_right (by omega), hC, Nat.sub_self]; rfl, hvl⟩
    refine yG ?_
    refine OS.fresh rfl (e_new (fun _ => rfl) rfl) (fun _ => rfl) (fun r0 => ?_)
    refine yG ?_
    have hs2 : SV 1 ((r0, ARow.cells tI []) :: (HY ++ (Y ++ L))) v Z.length ics := hs1.cons
    have hsw2 : SV 1 ((r0, ARow.cells tI []) :: (HY ++ (Y ++ L))) b w.length (zs w) := (hsw.mono fun p hp => List.mem_append_right _ (List.mem_append_right _ hp)).cons
    show OS _ _ _ _ ((r0, ARow.cells tI []) :: (HY ++ (Y ++ L))) _
    refine OS.at1 (j := i) (hs2) (hb) rfl rfl rfl rfl rfl rfl (fun ra0 oa0 rowa0 csa0 ma0 ca0 ga0 => ⟨_, rfl, ?_⟩)
    refine OS.read rfl (e_loadm ma0 ca0 rfl rfl (part_one rfl ga0)) rfl ?_
    refine OS.turnsJ rfl (e_appOwn (n := w.length) (sz := 1) (bts := 8) (e := tI) hsw2 (zs_one w) rfl rfl rfl (by omega) (by omega)) ?_
    rintro v1 L₁ ⟨X, rfl, h1⟩
    rcases h1 with ⟨hw0, rfl, rfl⟩ | ⟨r', rfl, rfl⟩
    · refine ⟨_, rfl, ?_⟩
      refine OS.fresh rfl (e_new (fun _ => rfl) rfl) (fun _ => rfl) (fun rb => ?_)
      refine OS.fresh rfl (e_appendGV [_, _] (m := 1) (sz := 1) (bts := 24) (GV.appR (Y ++ L) hgv) (SV.row (sz := 1) (n := 1) (List.mem_cons_self ..) rfl) (by omega) rfl rfl rfl rfl (by omega) (by omega)) (fun _ => rfl) (fun r2 => ?_)
      refine OS.sub (Sub.drop 1 rfl) ?_
      refine yG ?_
      obtain rfl : w = [] := List.eq_nil_of_length_eq_zero hw0
      refine ⟨Z.length - (i + 1), by omega, i + 1, _, C ++ [.slice (some ⟨r0, 0, none⟩) 0 0], [(r2, .cells tN (C ++ [.slice (some ⟨r0, 0, none⟩) 0 0]))], [(r0, .cells tI [])] ++ Y, rfl, by omega, by simp [hC], ?_, hlast _ _ ?_, rfl, rfl⟩
      · exact GV.of (by simp [hC])
      · exact SV.row (e := tI) (cs := []) (List.mem_cons_self ..) rfl
    · refine ⟨_, rfl, ?_⟩
      refine OS.fresh rfl (e_new (fun _ => rfl) rfl) (fun _ => rfl) (fun rb => ?_)
      refine OS.fresh rfl (e_appendGV [_, _, _] (m := 1) (sz := 1) (bts := 24) (GV.appR (Y ++ L) hgv) (SV.row (sz := 1) (n := 1) (List.mem_cons_self ..) rfl) (by omega) rfl rfl rfl rfl (by omega) (by omega)) (fun _ => rfl) (fun r2 => ?_)
      refine OS.sub (Sub.drop 1 rfl) ?_
      refine yG ?_
      refine ⟨Z.length - (i + 1), by omega, i + 1, _, C ++ [.slice (some ⟨r', 0, none⟩) w.length openCap], [(r2, .cells tN (C ++ [.slice (some ⟨r', 0, none⟩) w.length openCap]))], [(r', .cells tI (zs w)), (r0, .cells tI [])] ++ Y, rfl, by omega, by simp [hC], ?_, hlast _ _ ?_, rfl, rfl⟩
      · exact GV.of (by simp [hC])
      · exact SV.row (e := tI) (cs := zs w) (List.mem_cons_self ..) (by simp [zs_len])
  · have hbi : (!ileB ((Z.length : Nat) : Int) (i : Nat)) = false := by rw [ileB_eq]; simp; omega
    obtain rfl : i = Z.length := by omega
    have hf' : ∃ A c, lv = .slice A Z.length c := hgv.sv.form
    obtain ⟨A, c, rfl⟩ := hf'
    refine yG ?_
    refine LS.exit ?_
    refine yG ?_
    refine ⟨HY ++ (Y ++ L), Sub.drops 0 rfl, HY ++ Y, by simp, C, ?_, fun j w hw => ?_⟩
    · rw [zv_len]
      exact hgv.sv.mono fun p hp => List.mem_append_left _ hp
    · rw [zv, List.getElem?_map] at hw
      obtain ⟨x, hx, rfl⟩ := Option.map_eq_some_iff.1 hw
      obtain ⟨b, h1, h2⟩ := hall j x (List.getElem?_eq_some_iff.1 hx).1 hx
      rw [zs_len]
      exact ⟨b, h1, h2.mono fun p hp => List.mem_append_right _ hp⟩
theorem in_ct {L : RL} {v : Value} {l : List Nat} (hv : SV 1 L v l.length (ns l)) (k : Nat) (hn : l.length ≤ 1000000) : CS Try.prog 28 [v, iN k] L fun u L' => u = .bool (l.contains k) ∧ L' = L := by
  refine CS.mk (fn := Try.f28) rfl rfl rfl rfl ?_
  refine yG ?_
  refine LS.loopJ [0, 1, 5] (fun q a L' => ∃ i : Nat, q = l.length - i ∧ i ≤ l.length ∧ k ∉ l.take i ∧ L' = L ∧ a = [v, iN k, .chan none, .chan none, .chan none, iN i, .chan none, .chan none, .chan none, .chan none, .chan none, .chan none, .chan none, .chan none, .chan none, .chan none, .chan none, .chan none]) (n := l.length) rfl ⟨0, rfl, by omega, by simp, rfl, rfl⟩ ?_
  rintro q a L' ⟨i, rfl, hi, hno, hL, rfl⟩
  rw [hL]
  clear hL
  by_cases hin : i < l.length
  · have hbi : (!ileB ((l.length : Nat) : Int) (i : Nat)) = true := by rw [ileB_eq]; simp; omega
    obtain ⟨x, hx⟩ := ext_list hin
    refine yG ?_
    refine OS.at1 (j := i) (hv) (ns_at hx) rfl rfl rfl rfl rfl rfl (fun ra0 oa0 rowa0 csa0 ma0 ca0 ga0 => ⟨_, rfl, ?_⟩)
    refine OS.read rfl (e_loadm ma0 ca0 rfl rfl (part_one rfl ga0)) rfl ?_
    by_cases hxk : x = k
    · have hb2 : ieqB ((x : Nat) : Int) (k : Nat) = true := by rw [ieqB_eq]; simp; omega
      have : l.contains k = true := by rw [List.contains_iff_mem, ← hxk]; exact List.mem_of_getElem? hx
      rw [this]
      refine yG ?_
      exact ⟨rfl, rfl⟩
    · have hb2 : ieqB ((x : Nat) : Int) (k : Nat) = false := by rw [ieqB_eq]; simp; omega
      refine yG ?_
      refine ⟨l.length - (i + 1), by omega, i + 1, rfl, by omega, fun h => ?_, rfl, rfl⟩
      rw [take_snoc' hx] at h
      rcases List.mem_append.1 h with h | h
      · exact hno h
      · simp at h; exact hxk h.symm
  · have hbi : (!ileB ((l.length : Nat) : Int) (i : Nat)) = false := by rw [ileB_eq]; simp; omega
    rw [List.take_of_length_le (by omega)] at hno
    have : l.contains k = false := by rw [← Bool.not_eq_true, List.contains_iff_mem]; exact hno
    rw [this]
    refine yG ?_
    refine LS.exit ?_
    refine yG ?_
    exact ⟨rfl, rfl⟩
theorem May_ct {L : RL} {v : Value} {Z : List (List Int)} (hv : NL L v (zv Z)) (hn : Z.length ≤ 1000000) (ht : tot Z ≤ 1000000) : CS Try.prog 20 [v] L fun u L' => u = .bool (may Z) ∧ L' = L := by
  obtain ⟨ics, hs, hg⟩ := hv.ofZ
  refine CS.mk (fn := Try.f20) rfl rfl rfl rfl ?_
  refine yG ?_
  refine LS.loopJ [0, 3, 4] (fun q a L' => ∃ i : Nat, q = Z.length - i ∧ i ≤ Z.length ∧ (∀ w, w ∈ Z.take i → ∀ k, k ∈ w → isT Z.length k = true) ∧ L' = L ∧ a = [v, .chan none, .chan none, iN (tot (Z.take i)), iN i, .chan none, .chan none, .chan none, .chan none, .chan none, .chan none, .chan none, .chan none, .chan none, .chan none, .chan none, .chan none, .chan none, .chan none, .chan none, .chan none, .chan none, .chan none, .chan none, .chan none, .chan none, .chan none, .chan none, .chan none, .chan none, .chan none, .chan none, .chan none, .chan none, .chan none, .chan none, .chan none, .chan none, .chan none, .chan none, .chan none, .chan none, .chan none, .chan none, .chan none, .chan none, .chan none, .chan none, .chan none, .chan none, .chan none, .chan none, .chan none, .chan none, .chan none]) (n := Z.length) rfl ⟨0, rfl, by omega, by simp, rfl, rfl⟩ ?_
  rintro q a L' ⟨i, rfl, hi, hall, hL, rfl⟩
  rw [hL]
  clear hL
  have hti := tot_le Z i
  by_cases hin : i < Z.length
  · have hbi : (!ileB ((Z.length : Nat) : Int) (i : Nat)) = true := by rw [ileB_eq]; simp; omega
    obtain ⟨w, hw⟩ := ext_list hin
    obtain ⟨b, hb, hsw⟩ := hg i w hw
    have hts := tot_succ hw
    have htl := tot_le Z (i + 1)
    refine yG ?_
    refine OS.at1 (j := i) (hs) (hb) rfl rfl rfl rfl rfl rfl (fun ra0 oa0 rowa0 csa0 ma0 ca0 ga0 => ⟨_, rfl, ?_⟩)
    refine OS.read rfl (e_loadm ma0 ca0 rfl rfl (part_one rfl ga0)) rfl ?_
    refine yG ?_
    rw [← hts]
    refine LS.loopJ [0, 3, 4, 5] (fun q a L' => ∃ j : Nat, q = w.length - j ∧ j ≤ w.length ∧ (∀ k, k ∈ w.take j → isT Z.length k = true) ∧ L' = L ∧ a = [v, .chan none, .chan none, iN (tot (Z.take (i + 1))), iN i, iN j, .chan none, .chan none, .chan none, .chan none, .chan none, .chan none, .chan none, .chan none, .chan none, .chan none, .chan none, .chan none, .chan none, .chan none, .chan none, .chan none, .chan none, .chan none, .chan none, .chan none, .chan none, .chan none, .chan none, .chan none, .chan none, .chan none, .chan none, .chan none, .chan none, .chan none, .chan none, .chan none, .chan none, .chan none, .chan none, .chan none, .chan none, .chan none, .chan none, .chan none, .chan none, .chan none, .chan none, .chan none, .chan none, .chan none, .chan none, .chan none, .chan none]) (n := w.length) rfl ⟨0, rfl, by omega, by simp, rfl, rfl⟩ ?_
    rintro q a L' ⟨j, rfl, hj, hjk, hL, rfl⟩
    rw [hL]
    clear hL
    refine yG ?_
    refine OS.at1 (j := i) (hs) (hb) rfl rfl rfl rfl rfl rfl (fun ra1 oa1 rowa1 csa1 ma1 ca1 ga1 => ⟨_, rfl, ?_⟩)
    refine OS.read rfl (e_loadm ma1 ca1 rfl rfl (part_one rfl ga1)) rfl ?_
    by_cases hjw : j < w.length
    · have hbj : (!ileB ((w.length : Nat) : Int) (j : Nat)) = true := by rw [ileB_eq]; simp; omega
      obtain ⟨k, hk⟩ := ext_list hjw
      refine yG ?_
      refine OS.at1 (j := i) (hs) (hb) rfl rfl rfl rfl rfl rfl (fun ra2 oa2 rowa2 csa2 ma2 ca2 ga2 => ⟨_, rfl, ?_⟩)
      refine OS.read rfl (e_loadm ma2 ca2 rfl rfl (part_one rfl ga2)) rfl ?_
      refine yG ?_
      refine OS.at1 (j := j) (hsw) (zs_at hk) rfl rfl rfl rfl rfl rfl (fun ra3 oa3 rowa3 csa3 ma3 ca3 ga3 => ⟨_, rfl, ?_⟩)
      refine OS.read rfl (e_loadm ma3 ca3 rfl rfl (part_one rfl ga3)) rfl ?_
      by_cases hk0 : k < 0
      · have hb1 : (!ileB 0 k) = true := by rw [ileB_eq]; simp; omega
        have : may Z = false := may_bad hw hk (by simp [isT]; omega)
        rw [this]
        refine yG ?_
        exact ⟨rfl, rfl⟩
      have hb1 : (!ileB 0 k) = false := by rw [ileB_eq]; simp; omega
      refine yG ?_
      refine OS.at1 (j := i) (hs) (hb) rfl rfl rfl rfl rfl rfl (fun ra4 oa4 rowa4 csa4 ma4 ca4 ga4 => ⟨_, rfl, ?_⟩)
      refine OS.read rfl (e_loadm ma4 ca4 rfl rfl (part_one rfl ga4)) rfl ?_
      refine yG ?_
      refine OS.at1 (j := j) (hsw) (zs_at hk) rfl rfl rfl rfl rfl rfl (fun ra5 oa5 rowa5 csa5 ma5 ca5 ga5 => ⟨_, rfl, ?_⟩)
      refine OS.read rfl (e_loadm ma5 ca5 rfl rfl (part_one rfl ga5)) rfl ?_
      by_cases hkn : (Z.length : Int) ≤ k
      · have hb2 : ileB ((Z.length : Nat) : Int) k = true := by rw [ileB_eq]; simp; omega
        have : may Z = false := may_bad hw hk (by simp [isT]; omega)
        rw [this]
        refine yG ?_
        exact ⟨rfl, rfl⟩
      have hb2 : ileB ((Z.length : Nat) : Int) k = false := by rw [ileB_eq]; simp; omega
      refine yG ?_
      refine ⟨w.length - (j + 1), by omega, j + 1, rfl, by omega, fun y hy => ?_, rfl, rfl⟩
      rw [take_snoc' hk] at hy
      rcases List.mem_append.1 hy with hy | hy
      · exact hjk y hy
      · simp at hy; subst hy; simp [isT]; omega
    · have hbj : (!ileB ((w.length : Nat) : Int) (j : Nat)) = false := by rw [ileB_eq]; simp; omega
      refine yG ?_
      refine LS.exit ?_
      refine yG ?_
      refine ⟨Z.length - (i + 1), by omega, i + 1, rfl, by omega, fun x hx k hk => ?_, rfl, rfl⟩
      rw [take_snoc' hw] at hx
      rcases List.mem_append.1 hx with hx | hx
      · exact hall x hx k hk
      · simp at hx; subst hx
        rw [List.take_of_length_le (by omega)] at hjk
        exact hjk k hk
  · have hbi : (!ileB ((Z.length : Nat) : Int) (i : Nat)) = false := by rw [ileB_eq]; simp; omega
    obtain rfl : i = Z.length := by omega
    rw [List.take_of_length_le (Nat.le_refl _)] at hall ⊢
    by_cases h1 : Z.length ≤ 4096
    · have hb1 : ileB ((Z.length : Nat) : Int) 4096 = true := by rw [ileB_eq]; simp; omega
      by_cases h2 : tot Z ≤ 65536
      · have hb2 : ileB ((tot Z : Nat) : Int) 65536 = true := by rw [ileB_eq]; simp; omega
        have : may Z = true := may_iff.2 ⟨h1, h2, hall⟩
        rw [this]
        refine yG ?_
        refine LS.exit ?_
        refine yG ?_
        exact ⟨rfl, rfl⟩
      · have hb2 : ileB ((tot Z : Nat) : Int) 65536 = false := by rw [ileB_eq]; simp; omega
        have : may Z = false := by unfold may; rw [decide_eq_false h2]; simp
        rw [this]
        refine yG ?_
        refine LS.exit ?_
        refine yG ?_
        exact ⟨rfl, rfl⟩
    · have hb1 : ileB ((Z.length : Nat) : Int) 4096 = false := by rw [ileB_eq]; simp; omega
      have : may Z = false := by unfold may; rw [decide_eq_false h1]; simp
      rw [this]
      refine yG ?_
      refine LS.exit ?_
      refine yG ?_
      exact ⟨rfl, rfl⟩
end Go.Proofs.Yteakbbnlkjckhaa
