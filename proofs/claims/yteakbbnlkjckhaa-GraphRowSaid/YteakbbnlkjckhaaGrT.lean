/- Layer 15: the law GraphRow, walked. -/
import Derived.Test.YteakbbnlkjckhaaGrS
namespace Go.Gp
theorem fold_lv1_bound {i B : Nat} : ∀ (w lv : List Nat), i < lv.length → (∀ y, at' lv y ≤ B) → ∀ y, at' (w.foldl (lv1 i) lv) y ≤ B + w.length := by
  intro w
  induction w generalizing B with
  | nil => intro lv _ h y; simpa using h y
  | cons k w ih =>
    intro lv hi h y
    rw [List.foldl_cons]
    have := ih (B := B + 1) (lv1 i lv k) (by rw [lv1_len]; exact hi) (lv1_bound hi h) y
    simp only [List.length_cons]; omega
theorem levF_bound {M : Nd} {r : List Nat} (hr : ∀ x, x ∈ r → x < M.length) (hw : ∀ i, i < M.length → (nd M i).length ≤ 65536) : ∀ y, at' (levF M r) y ≤ bnd r.length 0 := by
  have key : ∀ p, p ≤ r.length → ∀ y, at' ((r.take p).foldl (lvI M) (List.replicate M.length 0)) y ≤ bnd p 0 := by
    intro p
    induction p with
    | zero =>
      intro _ y
      show at' (List.replicate M.length 0) y ≤ _
      unfold at'; rw [List.getD_eq_getElem?_getD, List.getElem?_replicate]; split <;> exact Nat.zero_le _
    | succ p ih =>
      intro hp y
      have hi : r[p]? = some r[p] := List.getElem?_eq_getElem (by omega)
      have hin := hr _ (List.mem_of_getElem? hi)
      rw [take_snoc' hi, List.foldl_append]
      have h1 := ih (by omega)
      generalize hlv : (r.take p).foldl (lvI M) (List.replicate M.length 0) = lv at h1
      have hl : lv.length = M.length := by rw [← hlv, fold_lvI]; simp
      generalize r[p] = i at hin
      have h2 := fold_lv1_bound (nd M i) lv (by rw [hl]; exact hin) h1 y
      have h3 : bnd p 0 + (nd M i).length = bnd p (nd M i).length := by unfold bnd; omega
      rw [h3] at h2
      exact Nat.le_trans h2 (bnd_next (hw i hin))
  intro y
  have := key r.length (Nat.le_refl _) y
  rwa [List.take_length] at this
theorem mxl_le {lv : List Nat} {B : Nat} (h : ∀ y, at' lv y ≤ B) (w : List Nat) : mxl lv w ≤ B + 1 := by
  have key : ∀ n, n ≤ w.length → mxl lv (w.take n) ≤ B + 1 := by
    intro n
    induction n with
    | zero => intro _; simp [mxl]
    | succ n ih =>
      intro hn
      rw [take_snoc' (List.getElem?_eq_getElem (by omega)), mxl_snoc]
      have := ih (by omega)
      have := h w[n]
      omega
  have := key w.length (Nat.le_refl _)
  rwa [List.take_length] at this
end Go.Gp
namespace Go.Proofs.Yteakbbnlkjckhaa
open Go.Am Go.Gp
set_option linter.unusedVariables false
set_option linter.unusedSimpArgs false
set_option maxRecDepth 20000
set_option maxHeartbeats 4000000
attribute [local irreducible] OS LSr ODS CS
theorem rowLaw_ct {L : RL} {v : Value} {Z : List (List Int)} (hv : NL L v (zv Z)) (hf : Fits Z) : CS Try.prog 6 [v] L fun u _ => u = .bool true := by
  have aw : ∀ L : RL, CS Try.prog 9 [] L fun v L' => v = .bool true ∧ L' = L := fun L => works_ct
  have hZl := hf.1
  refine CS.mk (fn := Try.f6) rfl rfl rfl rfl ?_
  refine yG ?_
  refine OS.callS noGo rfl (fun _ => rfl) (aw _) rfl ?_
  refine yG ?_
  refine OS.call noGo rfl (fun _ => rfl) ((large_ct hv hf 300 (by omega)).mono ?_)
  rintro u L2 ⟨b, rfl, hb, hL⟩
  rw [hL]
  clear hL
  rcases tf b with h | h
  · rw [h]
    refine yG ?_
    refine OS.callS noGo rfl (fun _ => rfl) (aw _) rfl ?_
    refine yG ?_
    rfl
  obtain ⟨h1, h2⟩ := hb h
  rw [h]
  have hB := Sort_ct hv
  have hC := fun X : RL => Levels_ct (hv.mono (L' := X ++ L) fun p hp => List.mem_append_right _ hp)
  by_cases he : sortE Z = 0
  rotate_left
  · have e1 : sortZ Z = [] := by unfold sortZ; rw [if_neg he]
    have e2 : levZ Z = [] := by unfold levZ; rw [if_neg he]
    simp only [e1] at hB
    simp only [e2] at hC
    generalize sortE Z = E at he hB hC
    have g1 : (!ieqB ((E : Nat) : Int) (E : Nat)) = false := by rw [ieqB_eq]; simp
    have g2 : (!ieqB ((E : Nat) : Int) 0) = true := by rw [ieqB_eq]; simp; omega
    refine yG ?_
    refine OS.call noGo rfl (fun _ => rfl) ((hB).mono ?_)
    rintro u1 L2 ⟨Y1, A1, c1, rfl, rfl, hs1⟩
    refine yG ?_
    refine OS.call noGo rfl (fun _ => rfl) ((hC Y1).mono ?_)
    rintro u2 L2 ⟨Y2, A2, c2, rfl, rfl, hs2⟩
    refine yG ?_
    refine OS.pure rfl (y_addN (m := 0) (n := 0) rfl rfl rfl rfl) rfl ?_
    refine yG ?_
    rfl
  obtain ⟨hm, hfull⟩ := sort_ok he
  obtain ⟨m1, m2⟩ := may_len hm
  have e1 : sortZ Z = topo (nat Z) := by unfold sortZ; rw [if_pos he]
  have e2 : levZ Z = levF (nat Z) (topo (nat Z)) := by unfold levZ; rw [if_pos he]
  have hvn := hv
  rw [zv_nat hm] at hvn
  have hM := nat_ok hm
  have hrow := topo_row (nat Z)
  rw [he, e1] at hB
  simp only [he, e2] at hC
  have hll := levF_len (nat Z) (topo (nat Z))
  have hla := fun {x : Nat} => lev_all (x := x) hrow hfull
  have hbd0 := levF_bound (M := nat Z) hrow.2.1 fun i hi => Nat.le_trans (tot_mem (at_nd hi)) m2
  have hbd := fun y => Nat.le_trans (hbd0 y) (bnd_le (p := (topo (nat Z)).length) (j := 0) (by omega) (by omega))
  clear hbd0
  generalize nat Z = M at *
  generalize levF M (topo M) = lev at *
  generalize topo M = row at *
  have g1 : (!ieqB ((0 : Nat) : Int) (0 : Nat)) = false := rfl
  have g2 : (!ieqB ((0 : Nat) : Int) 0) = false := rfl
  have g3 : (!ieqB ((M.length : Nat) : Int) (M.length : Nat)) = false := by rw [ieqB_eq]; simp
  refine yG ?_
  refine OS.call noGo rfl (fun _ => rfl) ((hB).mono ?_)
  rintro u1 L2 ⟨Y1, A1, c1, rfl, rfl, hs1⟩
  refine yG ?_
  refine OS.call noGo rfl (fun _ => rfl) ((hC Y1).mono ?_)
  rintro u2 L2 ⟨Y2, A2, c2, rfl, rfl, hs2⟩
  have hs1 := hs1.mono (L' := Y2 ++ (Y1 ++ L)) fun p hp => List.mem_append_right _ (List.mem_append_left _ hp)
  have hs2 := hs2.mono (L' := Y2 ++ (Y1 ++ L)) fun p hp => List.mem_append_left _ hp
  have hv0 := hvn.mono (L' := Y2 ++ (Y1 ++ L)) fun p hp => List.mem_append_right _ (List.mem_append_right _ hp)
  generalize Y2 ++ (Y1 ++ L) = F at hs1 hs2 hv0
  rw [hfull] at hs1 ⊢
  rw [hll] at hs2 ⊢
  obtain ⟨ics, hs, hg⟩ := hv0.ofN
  refine yG ?_
  refine OS.fresh rfl (e_make (l := M.length) (c := M.length) rfl rfl rfl makeT_ints (Nat.le_refl _) (by omega) (by omega)) (fun _ => rfl) (fun rp => ?_)
  rw [repl_zero]
  have k1 := fun x : Nat × ARow => hs1.cons (x := x)
  have k2 := fun x : Nat × ARow => hs2.cons (x := x)
  have k0 := fun x : Nat × ARow => hs.cons (x := x)
  have j1 := k1 (rp, .cells tI (ns (List.replicate M.length 0)))
  have j2 := k2 (rp, .cells tI (ns (List.replicate M.length 0)))
  have j0 := k0 (rp, .cells tI (ns (List.replicate M.length 0)))
  have hpl : ∀ pl : List Nat, pl.length = M.length → SV 1 ((rp, ARow.cells tI (ns pl)) :: F) (.slice (some ⟨rp, 0, none⟩) M.length M.length) M.length (ns pl) := fun pl h => SV.row (List.mem_cons_self ..) (by rw [ns_len, h]; simp)
  show OS _ _ _ _ ((rp, ARow.cells tI (ns (List.replicate M.length 0))) :: F) _
  refine yG ?_
  refine LS.loopJ [0, 3, 5, 7, 8] (fun q a L' => ∃ (i : Nat) (pl : List Nat), q = M.length - i ∧ i ≤ M.length ∧ Pl M row pl i ∧ L' = (rp, .cells tI (ns pl)) :: F ∧ a = [v, .chan none, .chan none, .slice A1 M.length c1, .chan none, .slice A2 M.length c2, .chan none, .slice (some ⟨rp, 0, none⟩) M.length M.length, iN i, .chan none, .chan none, .chan none, .chan none, .chan none, .chan none, .chan none, .chan none, .chan none, .chan none, .chan none, .chan none, .chan none, .chan none, .chan none, .chan none, .chan none, .chan none, .chan none, .chan none, .chan none, .chan none, .chan none, .chan none, .chan none, .chan none, .chan none, .chan none, .chan none, .chan none, .chan none, .chan none, .chan none, .chan none, .chan none, .chan none, .chan none, .chan none, .chan none, .chan none, .chan none, .chan none, .chan none, .chan none, .chan none, .chan none, .chan none, .chan none, .chan none, .chan none, .chan none, .chan none, .chan none, .chan none, .chan none, .chan none, .chan none, .chan none, .chan none, .chan none, .chan none, .chan none, .chan none, .chan none, .chan none, .chan none, .chan none, .chan none, .chan none, .chan none, .chan none, .chan none, .chan none, .chan none, .chan none, .chan none, .chan none, .chan none, .chan none, .chan none, .chan none, .chan none, .chan none, .chan none, .chan none, .chan none, .chan none, .chan none, .chan none, .chan none, .chan none, .chan none, .chan none, .chan none, .chan none, .chan none, .chan none, .chan none, .chan none, .chan none, .chan none, .chan none, .chan none, .chan none, .chan none, .chan none, .chan none, .chan none, .chan none, .chan none, .chan none, .chan none, .chan none, .chan none, .chan none, .chan none, .chan none, .chan none, .chan none, .chan none, .chan none, .chan none, .chan none, .chan none, .chan none, .chan none, .chan none, .chan none, .chan none, .chan none, .chan none, .chan none, .chan none]) (n := M.length) rfl ⟨0, List.replicate M.length 0, rfl, by omega, .start M row, rfl, rfl⟩ ?_
  clear j1 j2 j0
  rintro q a L' ⟨i, pl, rfl, hi, hP, rfl, rfl⟩
  have j1 := k1 (rp, .cells tI (ns pl))
  have j0 := k0 (rp, .cells tI (ns pl))
  by_cases hin : i < M.length
  · have hbi : (!ileB ((M.length : Nat) : Int) (i : Nat)) = true := by rw [ileB_eq]; simp; omega
    obtain ⟨x, hx⟩ := ext_list (l := row) (k := i) (by omega)
    have hxn := hrow.2.1 x (List.mem_of_getElem? hx)
    have hz : pl[x]? = some 0 := by rw [of_at (by rw [hP.len]; exact hxn), hP.not x (hrow.fresh hx)]
    have b1 : (!ileB 0 ((x : Nat) : Int)) = false := by rw [ileB_eq]; simp
    have b2 : ileB ((M.length : Nat) : Int) ((x : Nat) : Int) = false := by rw [ileB_eq]; simp; omega
    refine yG ?_
    refine OS.at1 (j := i) (j1) (ns_at hx) rfl rfl rfl rfl rfl rfl (fun ra0 oa0 rowa0 csa0 ma0 ca0 ga0 => ⟨_, rfl, ?_⟩)
    refine OS.read rfl (e_loadm ma0 ca0 rfl rfl (part_one rfl ga0)) rfl ?_
    refine yG ?_
    refine OS.at1 (j := i) (j1) (ns_at hx) rfl rfl rfl rfl rfl rfl (fun ra1 oa1 rowa1 csa1 ma1 ca1 ga1 => ⟨_, rfl, ?_⟩)
    refine OS.read rfl (e_loadm ma1 ca1 rfl rfl (part_one rfl ga1)) rfl ?_
    refine yG ?_
    refine OS.at1 (j := i) (j1) (ns_at hx) rfl rfl rfl rfl rfl rfl (fun ra2 oa2 rowa2 csa2 ma2 ca2 ga2 => ⟨_, rfl, ?_⟩)
    refine OS.read rfl (e_loadm ma2 ca2 rfl rfl (part_one rfl ga2)) rfl ?_
    refine OS.at1 (j := x) (hpl pl hP.len) (ns_at hz) rfl rfl rfl rfl rfl rfl (fun ra3 oa3 rowa3 csa3 ma3 ca3 ga3 => ⟨_, rfl, ?_⟩)
    refine OS.read rfl (e_loadm ma3 ca3 rfl rfl (part_one rfl ga3)) rfl ?_
    refine yG ?_
    refine OS.at1 (j := i) (j1) (ns_at hx) rfl rfl rfl rfl rfl rfl (fun ra4 oa4 rowa4 csa4 ma4 ca4 ga4 => ⟨_, rfl, ?_⟩)
    refine OS.read rfl (e_loadm ma4 ca4 rfl rfl (part_one rfl ga4)) rfl ?_
    refine yG ?_
    refine OS.pure rfl (e_index (j := x) (sz := 1) rfl rfl rfl Try.underlying23 rfl hxn) rfl ?_
    refine OS.write rfl (e_store 0 (n := 1) rfl rfl rfl rfl rfl rfl (lay_op (by rw [hP.len]; exact hxn)) rfl) rfl ?_
    refine yG ?_
    exact ⟨M.length - (i + 1), by omega, i + 1, pl.set x (i + 1), rfl, by omega, hP.step hrow hx, rfl, rfl⟩
  have hbi : (!ileB ((M.length : Nat) : Int) (i : Nat)) = false := by rw [ileB_eq]; simp; omega
  have hil : i = row.length := by omega
  rw [hil] at hP
  have hless := fun {x k : Nat} => hP.less hrow hfull (i := x) (k := k)
  have hP' := hpl pl hP.len
  have j2 := k2 (rp, .cells tI (ns pl))
  have hg' : ∀ x, x < M.length → ∃ b, ics[x]? = some b ∧ SV 1 ((rp, ARow.cells tI (ns pl)) :: F) b (nd M x).length (ns (nd M x)) := fun x hx => by
    obtain ⟨b, h1, h2⟩ := hg x _ (at_nd hx)
    exact ⟨b, h1, h2.cons⟩
  generalize (rp, ARow.cells tI (ns pl)) :: F = G at j1 j2 j0 hP' hg'
  refine yG ?_
  refine LS.exit ?_
  refine yG ?_
  refine LS.loopJ [0, 5, 7, 9] (fun q a L' => ∃ i : Nat, q = M.length - i ∧ i ≤ M.length ∧ L' = G ∧ a = [v, .chan none, .chan none, .chan none, .chan none, .slice A2 M.length c2, .chan none, .slice (some ⟨rp, 0, none⟩) M.length M.length, .chan none, iN i, .chan none, .chan none, .chan none, .chan none, .chan none, .chan none, .chan none, .chan none, .chan none, .chan none, .chan none, .chan none, .chan none, .chan none, .chan none, .chan none, .chan none, .chan none, .chan none, .chan none, .chan none, .chan none, .chan none, .chan none, .chan none, .chan none, .chan none, .chan none, .chan none, .chan none, .chan none, .chan none, .chan none, .chan none, .chan none, .chan none, .chan none, .chan none, .chan none, .chan none, .chan none, .chan none, .chan none, .chan none, .chan none, .chan none, .chan none, .chan none, .chan none, .chan none, .chan none, .chan none, .chan none, .chan none, .chan none, .chan none, .chan none, .chan none, .chan none, .chan none, .chan none, .chan none, .chan none, .chan none, .chan none, .chan none, .chan none, .chan none, .chan none, .chan none, .chan none, .chan none, .chan none, .chan none, .chan none, .chan none, .chan none, .chan none, .chan none, .chan none, .chan none, .chan none, .chan none, .chan none, .chan none, .chan none, .chan none, .chan none, .chan none, .chan none, .chan none, .chan none, .chan none, .chan none, .chan none, .chan none, .chan none, .chan none, .chan none, .chan none, .chan none, .chan none, .chan none, .chan none, .chan none, .chan none, .chan none, .chan none, .chan none, .chan none, .chan none, .chan none, .chan none, .chan none, .chan none, .chan none, .chan none, .chan none, .chan none, .chan none, .chan none, .chan none, .chan none, .chan none, .chan none, .chan none, .chan none, .chan none, .chan none, .chan none, .chan none, .chan none]) (n := M.length) rfl ⟨0, rfl, by omega, rfl, rfl⟩ ?_
  clear hbi hil hin hi i
  rintro q a L' ⟨i, rfl, hi, hL, rfl⟩
  rw [hL]
  clear hL
  by_cases hin : i < M.length
  rotate_left
  · have hbi : (!ileB ((M.length : Nat) : Int) (i : Nat)) = false := by rw [ileB_eq]; simp; omega
    refine yG ?_
    refine LS.exit ?_
    refine yG ?_
    rfl
  have hbi : (!ileB ((M.length : Nat) : Int) (i : Nat)) = true := by rw [ileB_eq]; simp; omega
  obtain ⟨b, hb, hsw⟩ := hg' i hin
  have hwl := tot_mem (at_nd hin)
  refine yG ?_
  refine LS.loopJ [0, 5, 7, 9, 10, 11] (fun q a L' => ∃ k : Nat, q = (nd M i).length - k ∧ k ≤ (nd M i).length ∧ L' = G ∧ a = [v, .chan none, .chan none, .chan none, .chan none, .slice A2 M.length c2, .chan none, .slice (some ⟨rp, 0, none⟩) M.length M.length, .chan none, iN i, iZ ((mxl lev ((nd M i).take k) : Int) - 1), iN k, .chan none, .chan none, .chan none, .chan none, .chan none, .chan none, .chan none, .chan none, .chan none, .chan none, .chan none, .chan none, .chan none, .chan none, .chan none, .chan none, .chan none, .chan none, .chan none, .chan none, .chan none, .chan none, .chan none, .chan none, .chan none, .chan none, .chan none, .chan none, .chan none, .chan none, .chan none, .chan none, .chan none, .chan none, .chan none, .chan none, .chan none, .chan none, .chan none, .chan none, .chan none, .chan none, .chan none, .chan none, .chan none, .chan none, .chan none, .chan none, .chan none, .chan none, .chan none, .chan none, .chan none, .chan none, .chan none, .chan none, .chan none, .chan none, .chan none, .chan none, .chan none, .chan none, .chan none, .chan none, .chan none, .chan none, .chan none, .chan none, .chan none, .chan none, .chan none, .chan none, .chan none, .chan none, .chan none, .chan none, .chan none, .chan none, .chan none, .chan none, .chan none, .chan none, .chan none, .chan none, .chan none, .chan none, .chan none, .chan none, .chan none, .chan none, .chan none, .chan none, .chan none, .chan none, .chan none, .chan none, .chan none, .chan none, .chan none, .chan none, .chan none, .chan none, .chan none, .chan none, .chan none, .chan none, .chan none, .chan none, .chan none, .chan none, .chan none, .chan none, .chan none, .chan none, .chan none, .chan none, .chan none, .chan none, .chan none, .chan none, .chan none, .chan none, .chan none, .chan none, .chan none, .chan none, .chan none, .chan none, .chan none, .chan none]) (n := (nd M i).length) rfl ⟨0, rfl, by omega, rfl, rfl⟩ ?_
  rintro q a L' ⟨k, rfl, hk, hL, rfl⟩
  rw [hL]
  clear hL
  have hmx := mxl_le hbd ((nd M i).take k)
  refine yG ?_
  refine OS.at1 (j := i) (j0) (hb) rfl rfl rfl rfl rfl rfl (fun ra5 oa5 rowa5 csa5 ma5 ca5 ga5 => ⟨_, rfl, ?_⟩)
  refine OS.read rfl (e_loadm ma5 ca5 rfl rfl (part_one rfl ga5)) rfl ?_
  by_cases hkw : k < (nd M i).length
  · have hbk : (!ileB (((nd M i).length : Nat) : Int) (k : Nat)) = true := by rw [ileB_eq]; simp; omega
    obtain ⟨z, hz⟩ := ext_list hkw
    have hzm : z ∈ nd M i := List.mem_of_getElem? hz
    have hzn := hM i z hzm
    have hlt := hless hin hzm
    have hbz := hbd z
    have b3 : ileB ((at' pl i : Nat) : Int) ((at' pl z : Nat) : Int) = false := by rw [ileB_eq]; simp; omega
    have hstep := mxl_snoc lev ((nd M i).take k) z
    rw [← take_snoc' hz] at hstep
    refine yG ?_
    refine OS.at1 (j := i) (j0) (hb) rfl rfl rfl rfl rfl rfl (fun ra6 oa6 rowa6 csa6 ma6 ca6 ga6 => ⟨_, rfl, ?_⟩)
    refine OS.read rfl (e_loadm ma6 ca6 rfl rfl (part_one rfl ga6)) rfl ?_
    refine yG ?_
    refine OS.at1 (j := k) (hsw) (ns_at hz) rfl rfl rfl rfl rfl rfl (fun ra7 oa7 rowa7 csa7 ma7 ca7 ga7 => ⟨_, rfl, ?_⟩)
    refine OS.read rfl (e_loadm ma7 ca7 rfl rfl (part_one rfl ga7)) rfl ?_
    refine yG ?_
    repeat refine LS.seq ?_
    refine LS.drawn noGo mixed [(0, false), (1, false), (2, false), (3, false), (4, false), (5, false), (6, false), (7, false), (8, false)] rfl rfl (by kernel_rfl) ?_
    refine yG ?_
    refine ODS.at1 (j := z) (hP') (ns_at (of_at (by rw [hP.len]; exact hzn))) rfl rfl rfl rfl rfl rfl rfl (fun ra8 oa8 rowa8 csa8 ma8 ca8 ga8 => ⟨_, rfl, ?_⟩)
    refine ODS.read rfl rfl (e_loadm ma8 ca8 rfl rfl (part_one rfl ga8)) rfl ?_
    refine yG ?_
    refine ODS.at1 (j := i) (hP') (ns_at (of_at (by rw [hP.len]; exact hin))) rfl rfl rfl rfl rfl rfl rfl (fun ra9 oa9 rowa9 csa9 ma9 ca9 ga9 => ⟨_, rfl, ?_⟩)
    refine ODS.read rfl rfl (e_loadm ma9 ca9 rfl rfl (part_one rfl ga9)) rfl ?_
    refine yG ?_
    refine OS.at1 (j := z) (j2) (ns_at (of_at (by rw [hll]; exact hzn))) rfl rfl rfl rfl rfl rfl (fun ra10 oa10 rowa10 csa10 ma10 ca10 ga10 => ⟨_, rfl, ?_⟩)
    refine OS.read rfl (e_loadm ma10 ca10 rfl rfl (part_one rfl ga10)) rfl ?_
    by_cases hgt : mxl lev ((nd M i).take k) ≤ at' lev z
    · have b4 : (!ileB ((at' lev z : Nat) : Int) ((mxl lev ((nd M i).take k) : Int) - 1)) = true := by rw [ileB_eq]; simp; omega
      have e9 : ((at' lev z : Nat) : Int) = (mxl lev ((nd M i).take (k + 1)) : Int) - 1 := by omega
      refine yG ?_
      refine OS.at1 (j := z) (j2) (ns_at (of_at (by rw [hll]; exact hzn))) rfl rfl rfl rfl rfl rfl (fun ra11 oa11 rowa11 csa11 ma11 ca11 ga11 => ⟨_, rfl, ?_⟩)
      refine OS.read rfl (e_loadm ma11 ca11 rfl rfl (part_one rfl ga11)) rfl ?_
      refine yG ?_
      exact ⟨(nd M i).length - (k + 1), by omega, k + 1, rfl, by omega, rfl, by rw [show iZ ((mxl lev ((nd M i).take (k + 1)) : Int) - 1) = iN (at' lev z) from congrArg _ e9.symm]; rfl⟩
    · have b4 : (!ileB ((at' lev z : Nat) : Int) ((mxl lev ((nd M i).take k) : Int) - 1)) = false := by rw [ileB_eq]; simp; omega
      have e9 : mxl lev ((nd M i).take (k + 1)) = mxl lev ((nd M i).take k) := by omega
      refine yG ?_
      exact ⟨(nd M i).length - (k + 1), by omega, k + 1, rfl, by omega, rfl, by rw [e9]; rfl⟩
  · have hbk : (!ileB (((nd M i).length : Nat) : Int) (k : Nat)) = false := by rw [ileB_eq]; simp; omega
    rw [List.take_of_length_le (by omega)] at hmx ⊢
    rw [← hla hin] at hmx ⊢
    have g5 : (!ieqB ((at' lev i : Nat) : Int) ((at' lev i : Nat) : Int)) = false := by rw [ieqB_eq]; simp
    refine yG ?_
    refine LS.exit ?_
    refine yG ?_
    refine OS.at1 (j := i) (j2) (ns_at (of_at (by rw [hll]; exact hin))) rfl rfl rfl rfl rfl rfl (fun ra6 oa6 rowa6 csa6 ma6 ca6 ga6 => ⟨_, rfl, ?_⟩)
    refine OS.read rfl (e_loadm ma6 ca6 rfl rfl (part_one rfl ga6)) rfl ?_
    refine yG ?_
    refine OS.pure rfl (e_is (v' := iN (at' lev i)) (e_add rfl rfl rfl (in_i64 (by omega) (by omega))) (congrArg (Value.int .i64) (by omega))) rfl ?_
    refine yG ?_
    exact ⟨M.length - (i + 1), by omega, i + 1, rfl, by omega, rfl, rfl⟩
end Go.Proofs.Yteakbbnlkjckhaa
