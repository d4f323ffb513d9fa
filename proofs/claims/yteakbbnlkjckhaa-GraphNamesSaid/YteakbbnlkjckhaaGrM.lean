/- Layer 15: the document's Above; the law GraphRests. -/
import Derived.Test.YteakbbnlkjckhaaGrL
namespace Go.Proofs.Yteakbbnlkjckhaa
open Go.Am Go.Gp
set_option linter.unusedVariables false
set_option linter.unusedSimpArgs false
set_option maxRecDepth 20000
set_option maxHeartbeats 4000000
attribute [local irreducible] OS LSr ODS CS
theorem refAbove_ct {L : RL} {v : Value} {M : Nd} {i : Nat} (hv : NL L v (nv M)) (hM : Ok M) (hn : M.length ≤ 4096) (ht : tot M ≤ 65536) :
    CS Try.prog 22 [v, iN i] L fun u L' => ∃ Y, L' = Y ++ L ∧ GV tI 1 [] u (above M i).length (ns (above M i)) Y := by
  obtain ⟨ics, hs, hg⟩ := hv.ofN
  have hba : picks (fun x => (below M x).contains i) M.length = above M i := picks_above fun k _ => by rw [List.contains_iff_mem, mem_below hM]
  generalize hbb : (fun x => (below M x).contains i) = b at hba
  have hbx : ∀ x, (below M x).contains i = b x := fun x => by rw [← hbb]
  refine CS.mk (fn := Try.f22) rfl rfl rfl rfl ?_
  refine yG ?_
  refine LS.loopJ [0, 1, 5, 6] (fun q a L' => ∃ (x : Nat) (rv : Value) (Y : RL), q = M.length - x ∧ x ≤ M.length ∧ GV tI 1 [] rv (picks b x).length (ns (picks b x)) Y ∧ L' = Y ++ L ∧ a = [v, iN i, .chan none, .chan none, .chan none, rv, iN x, .chan none, .chan none, .chan none, .chan none, .chan none, .chan none, .chan none, .chan none, .chan none, .chan none, .chan none, .chan none, .chan none, .chan none, .chan none, .chan none]) (n := M.length) rfl ⟨0, _, [], rfl, by omega, .nil, rfl, rfl⟩ ?_
  rintro q a L' ⟨x, rv, Y, rfl, hx, hgv, rfl, rfl⟩
  have hv1 := hv.mono (L' := Y ++ L) fun p hp => List.mem_append_right _ hp
  have hs1 := hs.mono (L' := Y ++ L) fun p hp => List.mem_append_right _ hp
  by_cases hxn : x < M.length
  · have hbi : (!ileB ((M.length : Nat) : Int) (x : Nat)) = true := by rw [ileB_eq]; simp; omega
    have hpl := picks_len b x
    have hps := picks_succ b x
    have hbl := picks_len (fun k => (above M k).contains x) M.length
    refine yG ?_
    refine OS.call noGo rfl (fun _ => rfl) ((refBelow_ct hv1 hM hn ht hxn).mono ?_)
    rintro u L2 ⟨Y2, rfl, hg2⟩
    refine yG ?_
    refine OS.call noGo rfl (fun _ => rfl) ((in_ct (hg2.sv.mono fun p hp => List.mem_append_left _ hp) i (by have : (below M x).length ≤ M.length := picks_len _ _; omega)).mono ?_)
    rintro u2 L2 ⟨rfl, hL⟩
    rw [hL, hbx]
    clear hL
    refine ⟨_, rfl, ?_⟩
    refine OS.sub (sub_front Y2 _) ?_
    rcases tf (b x) with hb | hb
    · rw [hb]
      rw [hb, if_pos rfl] at hps
      refine yG ?_
      refine OS.fresh rfl (e_new (fun _ => rfl) rfl) (fun _ => rfl) (fun rb => ?_)
      refine OS.fresh rfl (e_appendGV [_] (m := 1) (sz := 1) (bts := 8) (GV.appR L hgv) (SV.row (sz := 1) (n := 1) (List.mem_cons_self ..) rfl) (by omega) rfl rfl rfl rfl (by omega) (by omega)) (fun _ => rfl) (fun r2 => ?_)
      refine OS.sub (Sub.drop 1 rfl) ?_
      refine yG ?_
      refine ⟨M.length - (x + 1), by omega, x + 1, _, [(r2, .cells tI (ns (picks b x) ++ [iN x]))], rfl, by omega, ?_, rfl, rfl⟩
      rw [hps, ns_snoc, List.length_append]
      exact GV.of (by simp [ns_len])
    · rw [hb]
      rw [hb, if_neg (by simp), List.append_nil] at hps
      refine yG ?_
      exact ⟨M.length - (x + 1), by omega, x + 1, rv, Y, rfl, by omega, by rw [hps]; exact hgv, rfl, rfl⟩
  · have hbi : (!ileB ((M.length : Nat) : Int) (x : Nat)) = false := by rw [ileB_eq]; simp; omega
    obtain rfl : x = M.length := by omega
    rw [hba] at hgv
    have hf' : ∃ A c, rv = .slice A (above M i).length c := hgv.sv.form
    obtain ⟨A, c, rfl⟩ := hf'
    refine yG ?_
    refine LS.exit ?_
    refine yG ?_
    exact hgv
theorem restsLaw_ct {L : RL} {v : Value} {Z : List (List Int)} (hv : NL L v (zv Z)) (hf : Fits Z) (i : Int) : CS Try.prog 5 [v, iZ i] L fun u _ => u = .bool true := by
  have hZl := hf.1
  refine CS.mk (fn := Try.f5) rfl rfl rfl rfl ?_
  refine yG ?_
  refine OS.call noGo rfl (fun _ => rfl) ((large_ct hv hf 20 (by omega)).mono ?_)
  rintro u L2 ⟨b, rfl, hb, hL⟩
  rw [hL]
  clear hL
  rcases tf b with h | h
  · rw [h]
    refine yG ?_
    rfl
  obtain ⟨h1, h2⟩ := hb h
  rw [h]
  refine yG ?_
  refine OS.call noGo rfl (fun _ => rfl) ((copied_ct hv (by omega) (by omega)).mono ?_)
  rintro w L2 ⟨Y, rfl, hin⟩
  have hin0 := hin.mono (L' := Y ++ L) fun p hp => List.mem_append_left _ hp
  have hv0 := hv.mono (L' := Y ++ L) fun p hp => List.mem_append_right _ hp
  obtain ⟨ics, hsv, hgv⟩ := hv0.ofZ
  have up : ∀ (X : RL) (p : Nat × ARow), p ∈ Y ++ L → p ∈ X ++ (Y ++ L) := fun X p hp => List.mem_append_right _ hp
  by_cases hok : okT Z i = true
  · have e1 : belowZ Z i = below (nat Z) i.toNat := by unfold belowZ; rw [if_pos hok]
    have e2 : aboveZ Z i = above (nat Z) i.toNat := by unfold aboveZ; rw [if_pos hok]
    have hB := Below_ct hin0 i
    rw [if_pos hok, e1] at hB
    have hA := fun X : RL => Above_ct (hin0.mono (up X)) i
    simp only [if_pos hok, e2] at hA
    have hm : may Z = true := by unfold okT at hok; simp at hok; exact hok.1
    have hT : isT Z.length i = true := by unfold okT at hok; simp at hok; exact hok.2
    obtain ⟨k, rfl, hk⟩ := isT_nat hT
    have g0 : (!ileB 0 ((k : Nat) : Int)) = false := by rw [ileB_eq]; simp
    have g1 : ileB ((Z.length : Nat) : Int) ((k : Nat) : Int) = false := by rw [ileB_eq]; simp; omega
    obtain ⟨m1, m2⟩ := may_len hm
    have hvn := hv0
    rw [zv_nat hm] at hvn
    rw [Int.toNat_natCast] at hB hA
    have lb : (below (nat Z) k).length ≤ (nat Z).length := picks_len _ _
    have la : (above (nat Z) k).length ≤ (nat Z).length := picks_len _ _
    refine yG ?_
    refine OS.call noGo rfl (fun _ => rfl) ((hB).mono ?_)
    rintro ua L2 ⟨Y1, A1, c1, rfl, rfl, hs1⟩
    refine yG ?_
    refine OS.call noGo rfl (fun _ => rfl) ((hA Y1).mono ?_)
    rintro ub L2 ⟨Y2, A2, c2, rfl, rfl, hs2⟩
    refine yG ?_
    have up2 : ∀ (p : Nat × ARow), p ∈ Y ++ L → p ∈ Y2 ++ (Y1 ++ (Y ++ L)) := fun p hp => List.mem_append_right _ (List.mem_append_right _ hp)
    have hsv2 := hsv.mono up2
    refine OS.callS noGo rfl (fun _ => rfl) (May_ct (hv0.mono up2) (by omega) (by omega)) rfl ?_
    rw [hm]
    refine yG ?_
    refine OS.call noGo rfl (fun _ => rfl) ((refBelow_ct (hvn.mono up2) (nat_ok hm) m1 m2 (by rw [nat_len]; exact hk)).mono ?_)
    rintro u3 L2 ⟨Y3, rfl, hg3⟩
    refine ⟨_, rfl, ?_⟩
    refine OS.call noGo rfl (fun _ => rfl) ((IntsN_ct (xs := below (nat Z) k) (hs1.mono fun p hp => List.mem_append_right _ (List.mem_append_right _ (List.mem_append_left _ hp))) (hg3.sv.mono fun p hp => List.mem_append_left _ hp) (by omega)).mono ?_)
    rintro u4 L2 ⟨rfl, hL⟩
    rw [hL]
    clear hL
    refine yG ?_
    refine OS.call noGo rfl (fun _ => rfl) ((refAbove_ct (hvn.mono fun p hp => List.mem_append_right _ (up2 p hp)) (nat_ok hm) m1 m2).mono ?_)
    rintro u3 L2 ⟨Y4, rfl, hg4⟩
    refine ⟨_, rfl, ?_⟩
    refine OS.call noGo rfl (fun _ => rfl) ((IntsN_ct (xs := above (nat Z) k) (hs2.mono fun p hp => List.mem_append_right _ (List.mem_append_right _ (List.mem_append_left _ hp))) (hg4.sv.mono fun p hp => List.mem_append_left _ hp) (by omega)).mono ?_)
    rintro u4 L2 ⟨rfl, hL⟩
    rw [hL]
    clear hL
    refine yG ?_
    refine OS.call noGo rfl (fun _ => rfl) ((same_ct (hin0.mono fun p hp => List.mem_append_right _ (List.mem_append_right _ (up2 p hp))) (hv0.mono fun p hp => List.mem_append_right _ (List.mem_append_right _ (up2 p hp))) hf).mono ?_)
    rintro u4 L2 ⟨rfl, hL⟩
    refine yG ?_
    rfl
  · have hok : okT Z i = false := by simpa using hok
    have e1 : belowZ Z i = [] := by unfold belowZ; rw [hok]; rfl
    have e2 : aboveZ Z i = [] := by unfold aboveZ; rw [hok]; rfl
    have hB := Below_ct hin0 i
    rw [hok, e1] at hB
    have hA := fun X : RL => Above_ct (hin0.mono (up X)) i
    simp only [hok, e2] at hA
    refine yG ?_
    refine OS.call noGo rfl (fun _ => rfl) ((hB).mono ?_)
    rintro ua L2 ⟨Y1, A1, c1, rfl, rfl, hs1⟩
    refine yG ?_
    refine OS.call noGo rfl (fun _ => rfl) ((hA Y1).mono ?_)
    rintro ub L2 ⟨Y2, A2, c2, rfl, rfl, hs2⟩
    have up2 : ∀ (p : Nat × ARow), p ∈ Y ++ L → p ∈ Y2 ++ (Y1 ++ (Y ++ L)) := fun p hp => List.mem_append_right _ (List.mem_append_right _ hp)
    have hsv2 := hsv.mono up2
    have hs1' := hs1.mono (L' := Y2 ++ (Y1 ++ (Y ++ L))) fun p hp => List.mem_append_right _ (List.mem_append_left _ hp)
    have hs2' := hs2.mono (L' := Y2 ++ (Y1 ++ (Y ++ L))) fun p hp => List.mem_append_left _ hp
    refine yG ?_
    refine OS.callS noGo rfl (fun _ => rfl) (May_ct (hv0.mono up2) (by omega) (by omega)) rfl ?_
    rcases tf (may Z) with hm | hm
    rotate_left
    · rw [hm]
      refine yG ?_
      refine OS.pure rfl (y_addN (m := 0) (n := 0) rfl rfl rfl rfl) rfl ?_
      refine yG ?_
      rfl
    have hT : isT Z.length i = false := by unfold okT at hok; rw [hm] at hok; simpa using hok
    rw [hm]
    by_cases hi0 : i < 0
    · have g0 : (!ileB 0 i) = true := by rw [ileB_eq]; simp; omega
      refine yG ?_
      refine OS.pure rfl (y_addN (m := 0) (n := 0) rfl rfl rfl rfl) rfl ?_
      refine yG ?_
      rfl
    · have g0 : (!ileB 0 i) = false := by rw [ileB_eq]; simp; omega
      have g1 : ileB ((Z.length : Nat) : Int) i = true := by rw [ileB_eq]; simp [isT] at hT ⊢; omega
      refine yG ?_
      refine OS.pure rfl (y_addN (m := 0) (n := 0) rfl rfl rfl rfl) rfl ?_
      refine yG ?_
      rfl
end Go.Proofs.Yteakbbnlkjckhaa
