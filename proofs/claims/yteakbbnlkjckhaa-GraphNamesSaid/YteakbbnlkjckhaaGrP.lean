/- Layer 15: the document's Sort and Levels; the law GraphSorts. -/
import Derived.Test.YteakbbnlkjckhaaGrO
namespace Go.Gp
/-- The least one from a place on that is ready. -/
def From (M : Nd) (r : List Nat) (m : Nat) : Option Nat → Prop
  | none => ∀ x, m ≤ x → x < M.length → ready M r x = false
  | some y => ready M r y = true ∧ m ≤ y ∧ y < M.length ∧ ∀ x, m ≤ x → x < y → ready M r x = false
theorem From.end {M : Nd} {r : List Nat} {o : Option Nat} (h : From M r 0 o) : nxt M r = o := by
  cases o with
  | none => exact nxt_none.2 fun i hi => h i (Nat.zero_le _) hi
  | some y => exact nxt_some.2 ⟨h.1, h.2.2.1, fun j hj => h.2.2.2 j (Nat.zero_le _) hj⟩
theorem From.no {M : Nd} {r : List Nat} {m : Nat} {o : Option Nat} (h : From M r (m + 1) o) (hr : ready M r m = false) : From M r m o := by
  cases o with
  | none =>
    intro x h1 h2
    by_cases hx : x = m
    · subst hx; exact hr
    · exact h x (by omega) h2
  | some y =>
    refine ⟨h.1, by have := h.2.1; omega, h.2.2.1, fun x h1 h2 => ?_⟩
    by_cases hx : x = m
    · subst hx; exact hr
    · exact h.2.2.2 x (by omega) h2
theorem From.yes {M : Nd} {r : List Nat} {m : Nat} (hm : m < M.length) (hr : ready M r m = true) : From M r m (some m) := ⟨hr, Nat.le_refl _, hm, fun x h1 h2 => by omega⟩
end Go.Gp
namespace Go.Proofs.Yteakbbnlkjckhaa
open Go.Am Go.Gp
set_option linter.unusedVariables false
set_option linter.unusedSimpArgs false
set_option maxRecDepth 20000
set_option maxHeartbeats 4000000
attribute [local irreducible] OS LSr ODS CS
def oZ : Option Nat → Int
  | none => -1
  | some y => (y : Nat)
theorem refSort_ct {L : RL} {v : Value} {Z : List (List Int)} (hv : NL L v (zv Z)) (hn : Z.length ≤ 1000000) (ht : tot Z ≤ 1000000) : CS Try.prog 17 [v] L (Res L (sortZ Z) (sortE Z)) := by
  refine CS.mk (fn := Try.f17) rfl rfl rfl rfl ?_
  refine yG ?_
  refine OS.callS noGo rfl (fun _ => rfl) (May_ct hv hn ht) rfl ?_
  rcases tf (may Z) with hm | hm
  rotate_left
  · have e : sortE Z = 1 := by unfold sortE; rw [hm]; rfl
    have e2 : sortZ Z = [] := by unfold sortZ; rw [e]; rfl
    rw [hm, e, e2]
    refine yG ?_
    exact Res.no 1
  obtain ⟨h1, h2⟩ := may_len hm
  have hvn := hv
  rw [zv_nat hm] at hvn
  rw [hm]
  have hM := nat_ok hm
  have hE : sortE Z = if (topo (nat Z)).length < (nat Z).length then 64 else 0 := by unfold sortE; rw [hm, if_pos rfl]
  have hS : sortZ Z = if sortE Z = 0 then topo (nat Z) else [] := rfl
  generalize nat Z = M at *
  generalize sortE Z = E at *
  generalize sortZ Z = S at *
  obtain ⟨ics, hs, hg⟩ := hvn.ofN
  refine yG ?_
  refine LS.loopJ [0, 4] (fun q a L' => ∃ (r : List Nat) (rv : Value) (Y : RL), q = M.length - r.length ∧ Part M r ∧ GV tI 1 [] rv r.length (ns r) Y ∧ L' = Y ++ L ∧ a = [v, .chan none, .chan none, .chan none, rv, .chan none, .chan none, .chan none, .chan none, .chan none, .chan none, .chan none, .chan none, .chan none, .chan none, .chan none, .chan none, .chan none, .chan none, .chan none, .chan none, .chan none, .chan none, .chan none, .chan none, .chan none, .chan none, .chan none, .chan none, .chan none, .chan none, .chan none, .chan none, .chan none, .chan none, .chan none, .chan none, .chan none, .chan none, .chan none, .chan none, .chan none, .chan none, .chan none, .chan none, .chan none, .chan none, .chan none, .chan none, .chan none, .chan none, .chan none, .chan none, .chan none, .chan none, .chan none, .chan none, .chan none]) (n := M.length) rfl ⟨[], _, [], rfl, .nil M, .nil, rfl, rfl⟩ ?_
  rintro q a L' ⟨r, rv, Y, rfl, hpart, hgv, rfl, rfl⟩
  have hrl := hpart.len
  have hs1 := hs.mono (L' := Y ++ L) fun p hp => List.mem_append_right _ hp
  have hsv := hgv.sv.mono (L' := Y ++ L) fun p hp => List.mem_append_left _ hp
  by_cases hlt : r.length < M.length
  rotate_left
  · have hb : (!ileB ((M.length : Nat) : Int) (r.length : Nat)) = false := by rw [ileB_eq]; simp; omega
    have htop := hpart.full (by omega)
    have e : E = 0 := by rw [hE, htop, if_neg hlt]
    rw [if_pos e, htop] at hS
    obtain ⟨A, c, rfl⟩ := hgv.sv.form
    rw [e, hS]
    refine yG ?_
    refine LS.exit ?_
    refine yG ?_
    exact ⟨Y, A, c, rfl, rfl, hgv.sv⟩
  have hb : (!ileB ((M.length : Nat) : Int) (r.length : Nat)) = true := by rw [ileB_eq]; simp; omega
  refine yG ?_
  rw [show ((M.length - 1 : Nat) : Int) = (M.length : Int) - 1 by omega]
  refine LS.loopJ [0, 4, 5, 6] (fun q a L' => ∃ (m : Nat) (o : Option Nat), q = m ∧ m ≤ M.length ∧ From M r m o ∧ L' = Y ++ L ∧ a = [v, .chan none, .chan none, .chan none, rv, iZ (oZ o), iZ ((m : Int) - 1), .chan none, .chan none, .chan none, .chan none, .chan none, .chan none, .chan none, .chan none, .chan none, .chan none, .chan none, .chan none, .chan none, .chan none, .chan none, .chan none, .chan none, .chan none, .chan none, .chan none, .chan none, .chan none, .chan none, .chan none, .chan none, .chan none, .chan none, .chan none, .chan none, .chan none, .chan none, .chan none, .chan none, .chan none, .chan none, .chan none, .chan none, .chan none, .chan none, .chan none, .chan none, .chan none, .chan none, .chan none, .chan none, .chan none, .chan none, .chan none, .chan none, .chan none, .chan none]) (n := M.length) rfl ⟨M.length, none, rfl, by omega, fun x h1 h2 => by omega, rfl, rfl⟩ ?_
  rintro m a L' ⟨_, o, rfl, hmn, hfrom, hL, rfl⟩
  rw [hL]
  clear hL
  cases m with
  | zero =>
    have hb1 : ileB 0 (((0 : Nat) : Int) - 1) = false := rfl
    have hnx := hfrom.end
    refine yG ?_
    refine LS.exit ?_
    cases o with
    | none =>
      have hb2 : (!ileB 0 (oZ none)) = true := rfl
      have htop := hpart.end hnx
      have e : E = 64 := by rw [hE, htop, if_pos hlt]
      have e2 : S = [] := by rw [hS, e]; rfl
      rw [e, e2]
      refine yG ?_
      exact ⟨Y, none, 0, rfl, rfl, .inl ⟨rfl, rfl, rfl⟩⟩
    | some y =>
      have hb2 : (!ileB 0 (oZ (some y))) = false := by rw [ileB_eq]; simp [oZ]
      refine yG ?_
      refine OS.fresh rfl (e_new (fun _ => rfl) rfl) (fun _ => rfl) (fun rb => ?_)
      show OS _ _ _ _ ((rb, ARow.cells tI [iN y]) :: (Y ++ L)) _
      refine OS.fresh rfl (e_appendGV [_] (m := 1) (sz := 1) (bts := 8) (GV.appR L hgv) (SV.row (sz := 1) (n := 1) (List.mem_cons_self ..) rfl) (by omega) rfl rfl rfl rfl (by omega) (by omega)) (fun _ => rfl) (fun r2 => ?_)
      refine OS.sub (Sub.drop 1 rfl) ?_
      refine yG ?_
      refine ⟨M.length - (r.length + 1), by omega, r ++ [y], _, [(r2, .cells tI (ns r ++ [iN y]))], by simp, hpart.step hnx, ?_, rfl, rfl⟩
      rw [ns_snoc, List.length_append]
      exact GV.of (by simp [ns_len])
  | succ m =>
    have hb1 : ileB 0 (((m + 1 : Nat) : Int) - 1) = true := by rw [ileB_eq]; simp
    have em : (((m + 1 : Nat) : Int) - 1) = (m : Nat) := by omega
    obtain ⟨b, hb', hsw⟩ := hg m _ (at_nd (by omega))
    have hwl := tot_mem (at_nd (M := M) (i := m) (by omega))
    have hsw1 := hsw.mono (L' := Y ++ L) fun p hp => List.mem_append_right _ hp
    refine yG ?_
    rw [em]
    refine OS.call noGo rfl (fun _ => rfl) ((in_ct hsv m (by omega)).mono ?_)
    rintro u L2 ⟨rfl, hL⟩
    rw [hL]
    clear hL
    refine yG ?_
    refine LS.loopJ [0, 4, 5, 6, 7, 8] (fun q a L' => ∃ k : Nat, q = (nd M m).length - k ∧ k ≤ (nd M m).length ∧ L' = Y ++ L ∧ a = [v, .chan none, .chan none, .chan none, rv, iZ (oZ o), iN m, .bool (!r.contains m && ((nd M m).take k).all r.contains), iN k, .chan none, .chan none, .chan none, .chan none, .chan none, .chan none, .chan none, .chan none, .chan none, .chan none, .chan none, .chan none, .chan none, .chan none, .chan none, .chan none, .chan none, .chan none, .chan none, .chan none, .chan none, .chan none, .chan none, .chan none, .chan none, .chan none, .chan none, .chan none, .chan none, .chan none, .chan none, .chan none, .chan none, .chan none, .chan none, .chan none, .chan none, .chan none, .chan none, .chan none, .chan none, .chan none, .chan none, .chan none, .chan none, .chan none, .chan none, .chan none, .chan none]) (n := (nd M m).length) rfl ⟨0, rfl, by omega, rfl, by rw [show (!r.contains m && ((nd M m).take 0).all r.contains) = !r.contains m by simp]; rfl⟩ ?_
    rintro q a L' ⟨k, rfl, hk, hL, rfl⟩
    rw [hL]
    clear hL
    refine yG ?_
    refine OS.at1 (j := m) (hs1) (hb') rfl rfl rfl rfl rfl rfl (fun ra0 oa0 rowa0 csa0 ma0 ca0 ga0 => ⟨_, rfl, ?_⟩)
    refine OS.read rfl (e_loadm ma0 ca0 rfl rfl (part_one rfl ga0)) rfl ?_
    by_cases hkw : k < (nd M m).length
    · have hbk : (!ileB (((nd M m).length : Nat) : Int) (k : Nat)) = true := by rw [ileB_eq]; simp; omega
      obtain ⟨z, hz⟩ := ext_list hkw
      have hstep : (!r.contains m && ((nd M m).take (k + 1)).all r.contains) = ((!r.contains m && ((nd M m).take k).all r.contains) && r.contains z) := by
        rw [take_snoc' hz, List.all_append]; simp [Bool.and_assoc]
      generalize hok : (!r.contains m && ((nd M m).take k).all r.contains) = ok at hstep
      rcases tf ok with rfl | rfl
      · refine yG ?_
        refine OS.at1 (j := m) (hs1) (hb') rfl rfl rfl rfl rfl rfl (fun ra1 oa1 rowa1 csa1 ma1 ca1 ga1 => ⟨_, rfl, ?_⟩)
        refine OS.read rfl (e_loadm ma1 ca1 rfl rfl (part_one rfl ga1)) rfl ?_
        refine yG ?_
        refine OS.at1 (j := k) (hsw1) (ns_at hz) rfl rfl rfl rfl rfl rfl (fun ra2 oa2 rowa2 csa2 ma2 ca2 ga2 => ⟨_, rfl, ?_⟩)
        refine OS.read rfl (e_loadm ma2 ca2 rfl rfl (part_one rfl ga2)) rfl ?_
        refine OS.call noGo rfl (fun _ => rfl) ((in_ct hsv z (by omega)).mono ?_)
        rintro u L2 ⟨rfl, hL⟩
        rw [hL]
        clear hL
        refine yG ?_
        exact ⟨(nd M m).length - (k + 1), by omega, k + 1, rfl, by omega, rfl, by rw [hstep]; rfl⟩
      · refine yG ?_
        exact ⟨(nd M m).length - (k + 1), by omega, k + 1, rfl, by omega, rfl, by rw [hstep]; rfl⟩
    · have hbk : (!ileB (((nd M m).length : Nat) : Int) (k : Nat)) = false := by rw [ileB_eq]; simp; omega
      rw [List.take_of_length_le (by omega)]
      have hrd : (!r.contains m && (nd M m).all r.contains) = ready M r m := rfl
      rw [hrd]
      refine yG ?_
      refine LS.exit ?_
      rcases tf (ready M r m) with hr | hr
      · rw [hr]
        refine yG ?_
        refine OS.pure rfl (e_sub rfl rfl rfl (in_i64 (by omega) (by omega))) rfl ?_
        refine yG ?_
        exact ⟨m, by omega, m, some m, rfl, by omega, From.yes (by omega) hr, rfl, rfl⟩
      · rw [hr]
        refine yG ?_
        refine OS.pure rfl (e_sub rfl rfl rfl (in_i64 (by omega) (by omega))) rfl ?_
        refine yG ?_
        exact ⟨m, by omega, m, o, rfl, by omega, hfrom.no hr, rfl, rfl⟩
theorem refLevels_ct {L : RL} {v : Value} {Z : List (List Int)} (hv : NL L v (zv Z)) (hn : Z.length ≤ 1000000) (ht : tot Z ≤ 1000000) : CS Try.prog 18 [v] L (Res L (levZ Z) (sortE Z)) := by
  refine CS.mk (fn := Try.f18) rfl rfl rfl rfl ?_
  refine yG ?_
  refine OS.call noGo rfl (fun _ => rfl) ((refSort_ct hv hn ht).mono ?_)
  rintro u L2 ⟨Y, A, c, rfl, rfl, hsv⟩
  by_cases he : sortE Z = 0
  rotate_left
  · have hb : (!ieqB ((sortE Z : Nat) : Int) 0) = true := by rw [ieqB_eq]; simp; omega
    have e2 : levZ Z = [] := by unfold levZ; rw [if_neg he]
    rw [e2]
    refine yG ?_
    exact ⟨Y, none, 0, rfl, rfl, .inl ⟨rfl, rfl, rfl⟩⟩
  obtain ⟨hm, hfull⟩ := sort_ok he
  obtain ⟨h1, h2⟩ := may_len hm
  have e1 : sortZ Z = topo (nat Z) := by unfold sortZ; rw [if_pos he]
  have e2 : levZ Z = levF (nat Z) (topo (nat Z)) := by unfold levZ; rw [if_pos he]
  have hvn := hv
  rw [zv_nat hm] at hvn
  have hM := nat_ok hm
  have hrow := topo_row (nat Z)
  rw [e1] at hsv ⊢
  rw [e2, he]
  generalize nat Z = M at h1 h2 hvn hM hrow hfull hsv
  generalize topo M = row at hsv hrow hfull
  obtain ⟨ics, hs, hg⟩ := hvn.ofN
  have hs1 := hs.mono (L' := Y ++ L) fun p hp => List.mem_append_right _ hp
  have hsv1 := hsv.mono (L' := Y ++ L) fun p hp => List.mem_append_left _ hp
  have hb : (!ieqB ((0 : Nat) : Int) 0) = false := rfl
  refine yG ?_
  refine OS.fresh rfl (e_make (l := M.length) (c := M.length) rfl rfl rfl makeT_ints (Nat.le_refl _) (by omega) (by omega)) (fun _ => rfl) (fun rl => ?_)
  rw [repl_zero]
  have hs2 := fun x : Nat × ARow => hs1.cons (x := x)
  have hsv2 := fun x : Nat × ARow => hsv1.cons (x := x)
  have hlv : ∀ lv : List Nat, lv.length = M.length → SV 1 ((rl, ARow.cells tI (ns lv)) :: (Y ++ L)) (.slice (some ⟨rl, 0, none⟩) M.length M.length) M.length (ns lv) := fun lv h => SV.row (List.mem_cons_self ..) (by rw [ns_len, h]; simp)
  show OS _ _ _ _ ((rl, ARow.cells tI (ns (List.replicate M.length 0))) :: (Y ++ L)) _
  refine yG ?_
  refine LS.loopJ [0, 4, 6, 7] (fun q a L' => ∃ (p : Nat) (lv : List Nat), q = row.length - p ∧ p ≤ row.length ∧ lv.length = M.length ∧ (∀ y, at' lv y ≤ bnd p 0) ∧ lv = (row.take p).foldl (lvI M) (List.replicate M.length 0) ∧ L' = (rl, .cells tI (ns lv)) :: (Y ++ L) ∧ a = [v, .chan none, .chan none, .chan none, .slice A row.length c, .chan none, .slice (some ⟨rl, 0, none⟩) M.length M.length, iN p, .chan none, .chan none, .chan none, .chan none, .chan none, .chan none, .chan none, .chan none, .chan none, .chan none, .chan none, .chan none, .chan none, .chan none, .chan none, .chan none, .chan none, .chan none, .chan none, .chan none, .chan none, .chan none, .chan none, .chan none, .chan none, .chan none, .chan none, .chan none, .chan none, .chan none, .chan none, .chan none, .chan none, .chan none, .chan none, .chan none, .chan none, .chan none, .chan none, .chan none, .chan none, .chan none, .chan none, .chan none, .chan none, .chan none, .chan none, .chan none, .chan none, .chan none, .chan none, .chan none, .chan none, .chan none, .chan none, .chan none, .chan none, .chan none, .chan none, .chan none, .chan none, .chan none]) (n := row.length) rfl ⟨0, List.replicate M.length 0, rfl, by omega, by simp, fun y => by unfold at'; rw [List.getD_eq_getElem?_getD, List.getElem?_replicate]; split <;> exact Nat.zero_le _, rfl, rfl, rfl⟩ ?_
  rintro q a L' ⟨p, lv, rfl, hp, hll, hbd, hlvp, rfl, rfl⟩
  have hsv3 := hsv2 (rl, .cells tI (ns lv))
  by_cases hpr : p < row.length
  · have hbp : (!ileB ((row.length : Nat) : Int) (p : Nat)) = true := by rw [ileB_eq]; simp; omega
    obtain ⟨x, hx⟩ := ext_list hpr
    have hxn : x < M.length := hrow.2.1 x (List.mem_of_getElem? hx)
    obtain ⟨b, hb, hsw⟩ := hg x _ (at_nd hxn)
    have hwl := tot_mem (at_nd hxn)
    have hsw1 := fun y : Nat × ARow => (hsw.mono (L' := Y ++ L) fun p hp => List.mem_append_right _ hp).cons (x := y)
    refine yG ?_
    refine OS.at1 (j := p) (hsv2 _) (ns_at hx) rfl rfl rfl rfl rfl rfl (fun ra0 oa0 rowa0 csa0 ma0 ca0 ga0 => ⟨_, rfl, ?_⟩)
    refine OS.read rfl (e_loadm ma0 ca0 rfl rfl (part_one rfl ga0)) rfl ?_
    refine yG ?_
    refine LS.loopJ [0, 4, 6, 7, 8, 9] (fun q a L' => ∃ (j : Nat) (lv' : List Nat), q = (nd M x).length - j ∧ j ≤ (nd M x).length ∧ lv'.length = M.length ∧ (∀ y, at' lv' y ≤ bnd p j) ∧ lv' = ((nd M x).take j).foldl (lv1 x) lv ∧ L' = (rl, .cells tI (ns lv')) :: (Y ++ L) ∧ a = [v, .chan none, .chan none, .chan none, .slice A row.length c, .chan none, .slice (some ⟨rl, 0, none⟩) M.length M.length, iN p, iN x, iN j, .chan none, .chan none, .chan none, .chan none, .chan none, .chan none, .chan none, .chan none, .chan none, .chan none, .chan none, .chan none, .chan none, .chan none, .chan none, .chan none, .chan none, .chan none, .chan none, .chan none, .chan none, .chan none, .chan none, .chan none, .chan none, .chan none, .chan none, .chan none, .chan none, .chan none, .chan none, .chan none, .chan none, .chan none, .chan none, .chan none, .chan none, .chan none, .chan none, .chan none, .chan none, .chan none, .chan none, .chan none, .chan none, .chan none, .chan none, .chan none, .chan none, .chan none, .chan none, .chan none, .chan none, .chan none, .chan none, .chan none, .chan none, .chan none, .chan none, .chan none]) (n := (nd M x).length) rfl ⟨0, lv, rfl, by omega, hll, hbd, by simp, rfl, rfl⟩ ?_
    rintro q a L' ⟨j, lv', rfl, hj, hll', hbd', hlv', rfl, rfl⟩
    have hsw2 := hsw1 (rl, .cells tI (ns lv'))
    refine yG ?_
    refine OS.at1 (j := x) (hs2 _) (hb) rfl rfl rfl rfl rfl rfl (fun ra1 oa1 rowa1 csa1 ma1 ca1 ga1 => ⟨_, rfl, ?_⟩)
    refine OS.read rfl (e_loadm ma1 ca1 rfl rfl (part_one rfl ga1)) rfl ?_
    by_cases hjw : j < (nd M x).length
    · have hbj : (!ileB (((nd M x).length : Nat) : Int) (j : Nat)) = true := by rw [ileB_eq]; simp; omega
      obtain ⟨k, hk⟩ := ext_list hjw
      have hkn : k < M.length := hM x k (List.mem_of_getElem? hk)
      have hbk := Nat.le_trans (hbd' k) (bnd_le (p := p) (j := j) (by have := nodup_len _ _ hrow.1 hrow.2.1; omega) (by omega))
      have hfold : ((nd M x).take (j + 1)).foldl (lv1 x) lv = lv1 x lv' k := by rw [take_snoc' hk, List.foldl_append, ← hlv']; rfl
      have hbd2 : ∀ y, at' (lv1 x lv' k) y ≤ bnd p (j + 1) := fun y => by rw [bnd_succ]; exact lv1_bound (k := k) (by omega) hbd' y
      refine yG ?_
      repeat refine LS.seq ?_
      refine LS.drawn noGo mixed [(0, false), (1, false), (2, false), (3, false), (4, false), (5, false), (6, false), (7, false), (8, false), (9, false), (10, false), (11, false), (12, false), (13, false), (14, false)] rfl rfl (by kernel_rfl) ?_
      refine yG ?_
      refine ODS.at1 (j := x) (hs2 _) (hb) rfl rfl rfl rfl rfl rfl rfl (fun ra2 oa2 rowa2 csa2 ma2 ca2 ga2 => ⟨_, rfl, ?_⟩)
      refine ODS.read rfl rfl (e_loadm ma2 ca2 rfl rfl (part_one rfl ga2)) rfl ?_
      refine yG ?_
      refine ODS.at1 (j := j) (hsw2) (ns_at hk) rfl rfl rfl rfl rfl rfl rfl (fun ra3 oa3 rowa3 csa3 ma3 ca3 ga3 => ⟨_, rfl, ?_⟩)
      refine ODS.read rfl rfl (e_loadm ma3 ca3 rfl rfl (part_one rfl ga3)) rfl ?_
      refine yG ?_
      refine ODS.at1 (j := k) (hlv lv' hll') (ns_at (of_at (by omega))) rfl rfl rfl rfl rfl rfl rfl (fun ra4 oa4 rowa4 csa4 ma4 ca4 ga4 => ⟨_, rfl, ?_⟩)
      refine ODS.read rfl rfl (e_loadm ma4 ca4 rfl rfl (part_one rfl ga4)) rfl ?_
      refine yG ?_
      refine ODS.at1 (j := x) (hlv lv' hll') (ns_at (of_at (by omega))) rfl rfl rfl rfl rfl rfl rfl (fun ra5 oa5 rowa5 csa5 ma5 ca5 ga5 => ⟨_, rfl, ?_⟩)
      refine ODS.read rfl rfl (e_loadm ma5 ca5 rfl rfl (part_one rfl ga5)) rfl ?_
      by_cases hge : at' lv' x ≤ at' lv' k
      · have hbg : ileB ((at' lv' x : Nat) : Int) ((at' lv' k : Nat) : Int) = true := by rw [ileB_eq]; simp; omega
        refine yG ?_
        refine OS.at1 (j := x) (hs2 _) (hb) rfl rfl rfl rfl rfl rfl (fun ra6 oa6 rowa6 csa6 ma6 ca6 ga6 => ⟨_, rfl, ?_⟩)
        refine OS.read rfl (e_loadm ma6 ca6 rfl rfl (part_one rfl ga6)) rfl ?_
        refine yG ?_
        refine OS.at1 (j := j) (hsw2) (ns_at hk) rfl rfl rfl rfl rfl rfl (fun ra7 oa7 rowa7 csa7 ma7 ca7 ga7 => ⟨_, rfl, ?_⟩)
        refine OS.read rfl (e_loadm ma7 ca7 rfl rfl (part_one rfl ga7)) rfl ?_
        refine yG ?_
        refine OS.at1 (j := k) (hlv lv' hll') (ns_at (of_at (by omega))) rfl rfl rfl rfl rfl rfl (fun ra8 oa8 rowa8 csa8 ma8 ca8 ga8 => ⟨_, rfl, ?_⟩)
        refine OS.read rfl (e_loadm ma8 ca8 rfl rfl (part_one rfl ga8)) rfl ?_
        refine yG ?_
        refine OS.pure rfl (e_index (j := x) (sz := 1) rfl rfl rfl Try.underlying23 rfl hxn) rfl ?_
        refine OS.write rfl (e_store 0 (n := 1) rfl rfl rfl rfl rfl rfl (lay_op (by omega)) rfl) rfl ?_
        refine yG ?_
        refine ⟨(nd M x).length - (j + 1), by omega, j + 1, lv1 x lv' k, rfl, by omega, by rw [lv1_len]; exact hll', hbd2, hfold.symm, ?_, rfl⟩
        rw [lv1_more hge]
      · have hbg : ileB ((at' lv' x : Nat) : Int) ((at' lv' k : Nat) : Int) = false := by rw [ileB_eq]; simp; omega
        refine yG ?_
        refine ⟨(nd M x).length - (j + 1), by omega, j + 1, lv1 x lv' k, rfl, by omega, by rw [lv1_len]; exact hll', hbd2, hfold.symm, ?_, rfl⟩
        rw [lv1_same (by omega) (by omega)]
    · have hbj : (!ileB (((nd M x).length : Nat) : Int) (j : Nat)) = false := by rw [ileB_eq]; simp; omega
      refine yG ?_
      refine LS.exit ?_
      refine yG ?_
      refine ⟨row.length - (p + 1), by omega, p + 1, lv', rfl, by omega, hll', fun y => Nat.le_trans (hbd' y) (bnd_next (by omega)), ?_, rfl, rfl⟩
      rw [take_snoc' hx, List.foldl_append, ← hlvp, hlv', List.take_of_length_le (by omega)]; rfl
  · have hbp : (!ileB ((row.length : Nat) : Int) (p : Nat)) = false := by rw [ileB_eq]; simp; omega
    rw [List.take_of_length_le (by omega)] at hlvp
    refine yG ?_
    refine LS.exit ?_
    refine yG ?_
    refine ⟨(rl, .cells tI (ns lv)) :: Y, some ⟨rl, 0, none⟩, M.length, rfl, ?_, ?_⟩
    · rw [levF_len]; rfl
    · rw [levF_len]
      have : levF M row = lv := hlvp.symm
      rw [this]
      exact SV.row (List.mem_cons_self ..) (by rw [ns_len, hll]; simp)
theorem sort_len (Z : List (List Int)) : (sortZ Z).length ≤ 4096 := by
  unfold sortZ
  split
  · rename_i h
    obtain ⟨hm, h2⟩ := sort_ok h
    have := (may_len hm).1; omega
  · simp
theorem lev_len (Z : List (List Int)) : (levZ Z).length ≤ 4096 := by
  unfold levZ
  split
  · rename_i h
    obtain ⟨hm, h2⟩ := sort_ok h
    rw [levF_len]
    exact (may_len hm).1
  · simp
theorem sortsLaw_ct {L : RL} {v : Value} {Z : List (List Int)} (hv : NL L v (zv Z)) (hf : Fits Z) : CS Try.prog 4 [v] L fun u _ => u = .bool true := by
  have hZl := hf.1
  have l1 := sort_len Z
  have l2 := lev_len Z
  have hb1 : ieqB ((sortE Z : Nat) : Int) (sortE Z : Nat) = true := by rw [ieqB_eq]; simp
  refine CS.mk (fn := Try.f4) rfl rfl rfl rfl ?_
  refine yG ?_
  refine OS.call noGo rfl (fun _ => rfl) ((large_ct hv hf 30 (by omega)).mono ?_)
  rintro u L2 ⟨b, rfl, hb, hL⟩
  rw [hL]
  clear hL
  rcases tf b with h | h
  · rw [h]
    refine yG ?_
    rfl
  obtain ⟨h1, h2⟩ := hb h
  rw [h]
  refine yG ?_
  refine OS.call noGo rfl (fun _ => rfl) ((copied_ct hv (by omega) (by omega)).mono ?_)
  rintro w L2 ⟨Y, rfl, hin⟩
  have hin0 := hin.mono (L' := Y ++ L) fun p hp => List.mem_append_left _ hp
  have hv0 := hv.mono (L' := Y ++ L) fun p hp => List.mem_append_right _ hp
  refine yG ?_
  refine OS.call noGo rfl (fun _ => rfl) ((Sort_ct hin0).mono ?_)
  rintro u1 L2 ⟨Y1, A1, c1, rfl, rfl, hs1⟩
  refine yG ?_
  refine OS.call noGo rfl (fun _ => rfl) ((refSort_ct (hv0.mono fun p hp => List.mem_append_right _ hp) (by omega) (by omega)).mono ?_)
  rintro u2 L2 ⟨Y2, A2, c2, rfl, rfl, hs2⟩
  refine yG ?_
  refine OS.call noGo rfl (fun _ => rfl) ((Levels_ct (hin0.mono fun p hp => List.mem_append_right _ (List.mem_append_right _ hp))).mono ?_)
  rintro u3 L2 ⟨Y3, A3, c3, rfl, rfl, hs3⟩
  refine yG ?_
  refine OS.call noGo rfl (fun _ => rfl) ((refLevels_ct (hv0.mono fun p hp => List.mem_append_right _ (List.mem_append_right _ (List.mem_append_right _ hp))) (by omega) (by omega)).mono ?_)
  rintro u4 L2 ⟨Y4, A4, c4, rfl, rfl, hs4⟩
  have m1 := hs1.mono (L' := Y4 ++ (Y3 ++ (Y2 ++ (Y1 ++ (Y ++ L))))) fun p hp => List.mem_append_right _ (List.mem_append_right _ (List.mem_append_right _ (List.mem_append_left _ hp)))
  have m2 := hs2.mono (L' := Y4 ++ (Y3 ++ (Y2 ++ (Y1 ++ (Y ++ L))))) fun p hp => List.mem_append_right _ (List.mem_append_right _ (List.mem_append_left _ hp))
  have m3 := hs3.mono (L' := Y4 ++ (Y3 ++ (Y2 ++ (Y1 ++ (Y ++ L))))) fun p hp => List.mem_append_right _ (List.mem_append_left _ hp)
  have m4 := hs4.mono (L' := Y4 ++ (Y3 ++ (Y2 ++ (Y1 ++ (Y ++ L))))) fun p hp => List.mem_append_left _ hp
  refine yG ?_
  refine OS.call noGo rfl (fun _ => rfl) ((IntsN_ct m1 m2 (by omega)).mono ?_)
  rintro u5 L2 ⟨rfl, hL⟩
  rw [hL]
  clear hL
  refine yG ?_
  refine OS.call noGo rfl (fun _ => rfl) ((IntsN_ct m3 m4 (by omega)).mono ?_)
  rintro u5 L2 ⟨rfl, hL⟩
  rw [hL]
  clear hL
  refine yG ?_
  refine OS.call noGo rfl (fun _ => rfl) ((same_ct (hin0.mono fun p hp => List.mem_append_right _ (List.mem_append_right _ (List.mem_append_right _ (List.mem_append_right _ hp)))) (hv0.mono fun p hp => List.mem_append_right _ (List.mem_append_right _ (List.mem_append_right _ (List.mem_append_right _ hp)))) hf).mono ?_)
  rintro u5 L2 ⟨rfl, hL⟩
  refine yG ?_
  rfl
end Go.Proofs.Yteakbbnlkjckhaa
