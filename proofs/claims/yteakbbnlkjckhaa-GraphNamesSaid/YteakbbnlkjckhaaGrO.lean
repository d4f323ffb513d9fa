/- Layer 15: Sort, Levels. -/
import Derived.Test.YteakbbnlkjckhaaGrN
namespace Go.Am
set_option linter.unusedVariables false
set_option linter.unusedSimpArgs false
section
variable {P : Program} {o : Oper} {a : Slots} {L : RL}
theorem e_max {c : Call} {k : IntKind} {x y : Int} (ho : o.op = .call c) (hc : c.callee = .builtin .max) (ha : evs a c.args.toList = some [.int k x, .int k y]) : ∀ h, opB P a o h = some (.val (.int k (max x y)) h) := by
  intro h
  by_cases hxy : y ≤ x
  · have : ileB y x = true := ileB_iff.2 hxy
    simp only [opB, ho, ha, callOpB, hc, minB, if_true, this, ret]
    rw [show max x y = x by omega]
  · have : ileB y x = false := by rw [ileB_eq]; simpa using hxy
    simp only [opB, ho, ha, callOpB, hc, minB, if_true, this, ret]
    rw [show max x y = y by omega]
theorem e_maxN {c : Call} {k : IntKind} {x y : Nat} (ho : o.op = .call c) (hc : c.callee = .builtin .max) (ha : evs a c.args.toList = some [.int k (x : Nat), .int k (y : Nat)]) : ∀ h, opB P a o h = some (.val (.int k ((max x y : Nat) : Int)) h) := by
  have := e_max (P := P) ho hc ha
  rw [show ((max x y : Nat) : Int) = max (x : Int) (y : Int) by omega]
  exact this
end
theorem gv_split {e : TypeId} {sz n : Nat} {L L' : RL} {v : Value} {cs : List Value} (g : GV e sz L v n cs L') : ∃ Y, L' = Y ++ L ∧ SV sz Y v n cs := by
  rcases g with ⟨rfl, rfl, rfl, rfl⟩ | ⟨r, rfl, hl, rfl⟩
  · exact ⟨[], rfl, .inl ⟨rfl, rfl, rfl⟩⟩
  · exact ⟨[(r, .cells e cs)], rfl, SV.row (List.mem_cons_self ..) hl⟩
end Go.Am
namespace Go.Gp
set_option linter.unusedVariables false
set_option linter.unusedSimpArgs false
def sortE (Z : List (List Int)) : Nat := if may Z then (if (topo (nat Z)).length < (nat Z).length then 64 else 0) else 1
def sortZ (Z : List (List Int)) : List Nat := if sortE Z = 0 then topo (nat Z) else []
/-- A thing's level, so far as it was told. -/
def lv1 (i : Nat) (lv : List Nat) (k : Nat) : List Nat := lv.set i (max (at' lv i) (at' lv k + 1))
def lvI (M : Nd) (lv : List Nat) (i : Nat) : List Nat := (nd M i).foldl (lv1 i) lv
def levF (M : Nd) (row : List Nat) : List Nat := row.foldl (lvI M) (List.replicate M.length 0)
def levZ (Z : List (List Int)) : List Nat := if sortE Z = 0 then levF (nat Z) (topo (nat Z)) else []
/-- A bound of levels. -/
def bnd (p j : Nat) : Nat := p * 65536 + j
theorem bnd_succ (p j : Nat) : bnd p (j + 1) = bnd p j + 1 := by unfold bnd; omega
theorem bnd_next {p j : Nat} (h : j ≤ 65536) : bnd p j ≤ bnd (p + 1) 0 := by unfold bnd; omega
theorem bnd_le {p j : Nat} (h : p ≤ 4096) (hj : j ≤ 65536) : bnd p j ≤ 1000000000000 := by unfold bnd; omega
theorem lv1_len (i : Nat) (lv : List Nat) (k : Nat) : (lv1 i lv k).length = lv.length := by simp [lv1]
theorem fold_lv1 (i : Nat) : ∀ (w lv : List Nat), (w.foldl (lv1 i) lv).length = lv.length
  | [], lv => rfl
  | k :: w, lv => by rw [List.foldl_cons, fold_lv1 i w, lv1_len]
theorem lvI_len (M : Nd) (lv : List Nat) (i : Nat) : (lvI M lv i).length = lv.length := fold_lv1 i _ _
theorem fold_lvI (M : Nd) : ∀ (r lv : List Nat), (r.foldl (lvI M) lv).length = lv.length
  | [], lv => rfl
  | i :: r, lv => by rw [List.foldl_cons, fold_lvI M r, lvI_len]
theorem levF_len (M : Nd) (r : List Nat) : (levF M r).length = M.length := by unfold levF; rw [fold_lvI]; simp
theorem set_at {lv : List Nat} {i : Nat} (hi : i < lv.length) : lv.set i (at' lv i) = lv := by
  apply List.ext_getElem?
  intro j
  rw [List.getElem?_set]
  by_cases h : i = j
  · subst h; rw [if_pos rfl, if_pos hi, of_at hi]
  · rw [if_neg h]
theorem lv1_same {i k : Nat} {lv : List Nat} (hi : i < lv.length) (h : at' lv k < at' lv i) : lv1 i lv k = lv := by
  unfold lv1; rw [Nat.max_eq_left (by omega), set_at hi]
theorem lv1_more {i k : Nat} {lv : List Nat} (h : at' lv i ≤ at' lv k) : lv1 i lv k = lv.set i (at' lv k + 1) := by
  unfold lv1; rw [Nat.max_eq_right (by omega)]
theorem lv1_bound {i k B : Nat} {lv : List Nat} (hi : i < lv.length) (h : ∀ y, at' lv y ≤ B) : ∀ y, at' (lv1 i lv k) y ≤ B + 1 := fun y => by
  unfold lv1
  rw [at_set hi]
  have h1 := h y
  have h2 := h i
  have h3 := h k
  split <;> omega
end Go.Gp
namespace Go.Proofs.Yteakbbnlkjckhaa
open Go.Am Go.Gp
set_option linter.unusedVariables false
set_option linter.unusedSimpArgs false
set_option maxRecDepth 20000
set_option maxHeartbeats 4000000
attribute [local irreducible] OS LSr ODS CS
theorem Sort_ct {L : RL} {v : Value} {Z : List (List Int)} (hv : NL L v (zv Z)) : CS Try.prog 10 [v] L (Res L (sortZ Z) (sortE Z)) := by
  obtain ⟨ics, hs, hg⟩ := hv.ofZ
  refine CS.mk (fn := Try.f10) rfl rfl rfl rfl ?_
  refine yG ?_
  refine OS.callS noGo rfl (fun _ => rfl) (mayBe_ct hv) rfl ?_
  rcases tf (may Z) with hm | hm
  rotate_left
  · have e : sortE Z = 1 := by unfold sortE; rw [hm]; rfl
    have e2 : sortZ Z = [] := by unfold sortZ; rw [e]; rfl
    rw [hm, e, e2]
    refine yG ?_
    exact Res.no 1
  obtain ⟨h1, h2⟩ := may_len hm
  have hvn := hv
  rw [zv_nat hm] at hvn
  rw [hm]
  refine yG ?_
  refine OS.call noGo rfl (fun _ => rfl) ((rowOf_ct hvn (nat_ok hm) h1 h2).mono ?_)
  rintro u L2 ⟨Y, rfl, hsv⟩
  obtain ⟨A, c, rfl⟩ := hsv.form
  have hs1 := hs.mono (L' := Y ++ L) fun p hp => List.mem_append_right _ hp
  have hsv1 := hsv.mono (L' := Y ++ L) fun p hp => List.mem_append_left _ hp
  by_cases hlt : (topo (nat Z)).length < (nat Z).length
  · have e : sortE Z = 64 := by unfold sortE; rw [hm, if_pos rfl, if_pos hlt]
    have e2 : sortZ Z = [] := by unfold sortZ; rw [e]; rfl
    rw [nat_len] at hlt
    have hb : (!ileB ((Z.length : Nat) : Int) (((topo (nat Z)).length : Nat) : Int)) = true := by rw [ileB_eq]; simp; omega
    rw [e, e2]
    refine yG ?_
    exact ⟨Y, none, 0, rfl, rfl, .inl ⟨rfl, rfl, rfl⟩⟩
  · have e : sortE Z = 0 := by unfold sortE; rw [hm, if_pos rfl, if_neg hlt]
    have e2 : sortZ Z = topo (nat Z) := by unfold sortZ; rw [if_pos e]
    rw [nat_len] at hlt
    have hb : (!ileB ((Z.length : Nat) : Int) (((topo (nat Z)).length : Nat) : Int)) = false := by rw [ileB_eq]; simp; omega
    rw [e, e2]
    refine yG ?_
    exact ⟨Y, A, c, rfl, rfl, hsv⟩
theorem sort_ok {Z : List (List Int)} (h : sortE Z = 0) : may Z = true ∧ (topo (nat Z)).length = (nat Z).length := by
  unfold sortE at h
  split at h
  · rename_i hm
    split at h
    · cases h
    · have := topo_len (nat Z)
      exact ⟨hm, by omega⟩
  · cases h
theorem Levels_ct {L : RL} {v : Value} {Z : List (List Int)} (hv : NL L v (zv Z)) : CS Try.prog 12 [v] L (Res L (levZ Z) (sortE Z)) := by
  refine CS.mk (fn := Try.f12) rfl rfl rfl rfl ?_
  refine yG ?_
  refine OS.call noGo rfl (fun _ => rfl) ((Sort_ct hv).mono ?_)
  rintro u L2 ⟨Y, A, c, rfl, rfl, hsv⟩
  by_cases he : sortE Z = 0
  rotate_left
  · have hb : (!ieqB ((sortE Z : Nat) : Int) 0) = true := by rw [ieqB_eq]; simp; omega
    have e2 : levZ Z = [] := by unfold levZ; rw [if_neg he]
    rw [e2]
    refine yG ?_
    exact ⟨Y, none, 0, rfl, rfl, .inl ⟨rfl, rfl, rfl⟩⟩
  obtain ⟨hm, hfull⟩ := sort_ok he
  obtain ⟨h1, h2⟩ := may_len hm
  have e1 : sortZ Z = topo (nat Z) := by unfold sortZ; rw [if_pos he]
  have e2 : levZ Z = levF (nat Z) (topo (nat Z)) := by unfold levZ; rw [if_pos he]
  have hvn := hv
  rw [zv_nat hm] at hvn
  have hM := nat_ok hm
  have hrow := topo_row (nat Z)
  rw [e1] at hsv ⊢
  rw [e2, he]
  generalize nat Z = M at h1 h2 hvn hM hrow hfull hsv
  generalize topo M = row at hsv hrow hfull
  obtain ⟨ics, hs, hg⟩ := hvn.ofN
  have hs1 := hs.mono (L' := Y ++ L) fun p hp => List.mem_append_right _ hp
  have hsv1 := hsv.mono (L' := Y ++ L) fun p hp => List.mem_append_left _ hp
  have hb : (!ieqB ((0 : Nat) : Int) 0) = false := rfl
  refine yG ?_
  refine OS.fresh rfl (e_make (l := M.length) (c := M.length) rfl rfl rfl makeT_ints (Nat.le_refl _) (by omega) (by omega)) (fun _ => rfl) (fun rl => ?_)
  rw [repl_zero]
  have hs2 := fun x : Nat × ARow => hs1.cons (x := x)
  have hsv2 := fun x : Nat × ARow => hsv1.cons (x := x)
  have hsv3 := hsv2 (rl, .cells tI (ns (List.replicate M.length 0)))
  have hlv : ∀ lv : List Nat, lv.length = M.length → SV 1 ((rl, ARow.cells tI (ns lv)) :: (Y ++ L)) (.slice (some ⟨rl, 0, none⟩) M.length M.length) M.length (ns lv) := fun lv h => SV.row (List.mem_cons_self ..) (by rw [ns_len, h]; simp)
  show OS _ _ _ _ ((rl, ARow.cells tI (ns (List.replicate M.length 0))) :: (Y ++ L)) _
  refine yG ?_
  refine LS.loopJ [0, 6, 22, 23, 24] (fun q a L' => ∃ (p : Nat) (lv : List Nat), q = row.length - p ∧ p ≤ row.length ∧ lv.length = M.length ∧ (∀ y, at' lv y ≤ bnd p 0) ∧ lv = (row.take p).foldl (lvI M) (List.replicate M.length 0) ∧ L' = (rl, .cells tI (ns lv)) :: (Y ++ L) ∧ a = [v, .chan none, .chan none, .chan none, .chan none, .chan none, .slice (some ⟨rl, 0, none⟩) M.length M.length, .chan none, .chan none, .chan none, .chan none, .chan none, .chan none, .chan none, .chan none, .chan none, .chan none, .chan none, .chan none, .chan none, .chan none, .chan none, .slice A row.length c, iN row.length, iN p, .chan none, .chan none, .chan none, .chan none, .chan none, .chan none, .chan none, .chan none, .chan none, .chan none, .chan none, .chan none, .chan none, .chan none, .chan none, .chan none, .chan none, .chan none, .chan none, .chan none, .chan none, .chan none, .chan none, .chan none, .chan none, .chan none, .chan none, .chan none]) (n := row.length) rfl ⟨0, List.replicate M.length 0, rfl, by omega, by simp, fun y => by unfold at'; rw [List.getD_eq_getElem?_getD, List.getElem?_replicate]; split <;> exact Nat.zero_le _, rfl, rfl, rfl⟩ ?_
  rintro q a L' ⟨p, lv, rfl, hp, hll, hbd, hlvp, rfl, rfl⟩
  by_cases hpr : p < row.length
  · have hbp : (!ileB ((row.length : Nat) : Int) (p : Nat)) = true := by rw [ileB_eq]; simp; omega
    obtain ⟨x, hx⟩ := ext_list hpr
    have hxn : x < M.length := hrow.2.1 x (List.mem_of_getElem? hx)
    obtain ⟨b, hb, hsw⟩ := hg x _ (at_nd hxn)
    have hwl := tot_mem (at_nd hxn)
    have hsw1 := fun y : Nat × ARow => (hsw.mono (L' := Y ++ L) fun p hp => List.mem_append_right _ hp).cons (x := y)
    have hsw2 := hsw1 (rl, .cells tI (ns lv))
    refine yG ?_
    refine OS.at1 (j := p) (hsv2 _) (ns_at hx) rfl rfl rfl rfl rfl rfl (fun ra0 oa0 rowa0 csa0 ma0 ca0 ga0 => ⟨_, rfl, ?_⟩)
    refine OS.read rfl (e_loadm ma0 ca0 rfl rfl (part_one rfl ga0)) rfl ?_
    refine yG ?_
    refine OS.at1 (j := x) (hs2 _) (hb) rfl rfl rfl rfl rfl rfl (fun ra1 oa1 rowa1 csa1 ma1 ca1 ga1 => ⟨_, rfl, ?_⟩)
    refine OS.read rfl (e_loadm ma1 ca1 rfl rfl (part_one rfl ga1)) rfl ?_
    refine yG ?_
    refine LS.loopJ [0, 6, 8, 22, 23, 24, 31, 32, 33] (fun q a L' => ∃ (j : Nat) (lv' : List Nat), q = (nd M x).length - j ∧ j ≤ (nd M x).length ∧ lv'.length = M.length ∧ (∀ y, at' lv' y ≤ bnd p j) ∧ lv' = ((nd M x).take j).foldl (lv1 x) lv ∧ L' = (rl, .cells tI (ns lv')) :: (Y ++ L) ∧ a = [v, .chan none, .chan none, .chan none, .chan none, .chan none, .slice (some ⟨rl, 0, none⟩) M.length M.length, .chan none, iN x, .chan none, .chan none, .chan none, .chan none, .chan none, .chan none, .chan none, .chan none, .chan none, .chan none, .chan none, .chan none, .chan none, .slice A row.length c, iN row.length, iN p, .chan none, .chan none, .chan none, .chan none, .chan none, .chan none, b, iN (nd M x).length, iN j, .chan none, .chan none, .chan none, .chan none, .chan none, .chan none, .chan none, .chan none, .chan none, .chan none, .chan none, .chan none, .chan none, .chan none, .chan none, .chan none, .chan none, .chan none, .chan none]) (n := (nd M x).length) rfl ⟨0, lv, rfl, by omega, hll, hbd, by simp, rfl, rfl⟩ ?_
    rintro q a L' ⟨j, lv', rfl, hj, hll', hbd', hlv', rfl, rfl⟩
    by_cases hjw : j < (nd M x).length
    · have hbj : (!ileB (((nd M x).length : Nat) : Int) (j : Nat)) = true := by rw [ileB_eq]; simp; omega
      obtain ⟨k, hk⟩ := ext_list hjw
      have hkn : k < M.length := hM x k (List.mem_of_getElem? hk)
      have hbk := Nat.le_trans (hbd' k) (bnd_le (p := p) (j := j) (by have := nodup_len _ _ hrow.1 hrow.2.1; omega) (by omega))
      refine yG ?_
      refine OS.at1 (j := j) (hsw1 _) (ns_at hk) rfl rfl rfl rfl rfl rfl (fun ra2 oa2 rowa2 csa2 ma2 ca2 ga2 => ⟨_, rfl, ?_⟩)
      refine OS.read rfl (e_loadm ma2 ca2 rfl rfl (part_one rfl ga2)) rfl ?_
      refine yG ?_
      repeat refine LS.seq ?_
      refine LS.drawn noGo mixed [(0, false), (1, false), (2, false), (3, false), (4, false), (5, false), (6, false), (7, false), (8, false), (9, false), (10, false), (11, false), (12, false), (13, true)] rfl rfl (by kernel_rfl) ?_
      refine yG ?_
      refine ODS.at1 (j := x) (hlv lv' hll') (ns_at (of_at (by omega))) rfl rfl rfl rfl rfl rfl rfl (fun ra3 oa3 rowa3 csa3 ma3 ca3 ga3 => ⟨_, rfl, ?_⟩)
      refine ODS.read rfl rfl (e_loadm ma3 ca3 rfl rfl (part_one rfl ga3)) rfl ?_
      refine yG ?_
      refine ODS.at1 (j := k) (hlv lv' hll') (ns_at (of_at (by omega))) rfl rfl rfl rfl rfl rfl rfl (fun ra4 oa4 rowa4 csa4 ma4 ca4 ga4 => ⟨_, rfl, ?_⟩)
      refine ODS.read rfl rfl (e_loadm ma4 ca4 rfl rfl (part_one rfl ga4)) rfl ?_
      refine yG ?_
      refine ODS.pure rfl rfl (e_maxN rfl rfl rfl) rfl ?_
      refine ODS.pure rfl rfl (e_index (j := x) (sz := 1) rfl rfl rfl Try.underlying23 rfl hxn) rfl ?_
      refine ODS.write rfl rfl (e_store 0 (n := 1) rfl rfl rfl rfl rfl rfl (lay_op (by omega)) rfl) rfl (Keep.gone rfl (Keep.gone rfl Keep.nil)) ?_
      refine yG ?_
      refine ⟨(nd M x).length - (j + 1), by omega, j + 1, lv1 x lv' k, rfl, by omega, by rw [lv1_len]; exact hll', fun y => by rw [bnd_succ]; exact lv1_bound (k := k) (by omega) hbd' y, ?_, rfl, rfl⟩
      rw [take_snoc' hk, List.foldl_append, ← hlv']; rfl
    · have hbj : (!ileB (((nd M x).length : Nat) : Int) (j : Nat)) = false := by rw [ileB_eq]; simp; omega
      refine yG ?_
      refine LS.exit ?_
      refine yG ?_
      refine ⟨row.length - (p + 1), by omega, p + 1, lv', rfl, by omega, hll', fun y => Nat.le_trans (hbd' y) (bnd_next (by omega)), ?_, rfl, rfl⟩
      rw [take_snoc' hx, List.foldl_append, ← hlvp, hlv', List.take_of_length_le (by omega)]; rfl
  · have hbp : (!ileB ((row.length : Nat) : Int) (p : Nat)) = false := by rw [ileB_eq]; simp; omega
    rw [List.take_of_length_le (by omega)] at hlvp
    refine yG ?_
    refine LS.exit ?_
    refine yG ?_
    refine ⟨(rl, .cells tI (ns lv)) :: Y, some ⟨rl, 0, none⟩, M.length, rfl, ?_, ?_⟩
    · rw [levF_len]; rfl
    · rw [levF_len]
      have : levF M row = lv := hlvp.symm
      rw [this]
      exact SV.row (List.mem_cons_self ..) (by rw [ns_len, hll]; simp)
end Go.Proofs.Yteakbbnlkjckhaa
