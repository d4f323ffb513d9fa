/- Layer 14: the law MatrixRows. -/
import Derived.Test.YtllcbjaajffaeaaMq
namespace Go.Am
set_option linter.unusedSimpArgs false
section
variable {P : Program} {o : Oper} {a : Slots} {x y : Operand} {t z : TypeId}
theorem e_neqA {A : Array Value} (ho : o.op = .binOp .neq t x y z) (hx : aev a x = some (.agg A)) (hy : aev a y = some (.agg A)) (e : eqB P 100 t (.agg A) (.agg A) = some true) (hg : P.eqGuardType P.depth t = false) : ∀ h, opB P a o h = some (.val (.bool false) h) := by
  intro h
  simp only [opB, ho, hx, hy, eqOk, binB, e, hg, ret, if_true]
  rfl
end
end Go.Am
namespace Go.Proofs.Ytllcbjaajffaeaa
open Go.Am Go.Mx
set_option linter.unusedVariables false
set_option linter.unusedSimpArgs false
set_option maxRecDepth 20000
set_option maxHeartbeats 4000000
attribute [local irreducible] OS LSr ODS CS YS OGS OT
def RA (l : List Ax) : List (List W) := if chk l = 0 then rowsL (vlsA l) else []
theorem RA_len (l : List Ax) : (RA l).length ≤ 24 := by
  unfold RA
  split
  · rename_i h
    rw [rows_len, show lens (vlsA l) = nsA l by simp [lens, vlsA, nsA]]
    exact (chk_zero h).2
  · simp
theorem rows_each : ∀ (l : List (List W)) (r : List W), r ∈ rowsL l → r.length = l.length
  | [], r, h => by simp [rowsL] at h; simp [h]
  | vs :: l, r, h => by
    simp only [rowsL, List.mem_flatMap, List.mem_map] at h
    obtain ⟨v, _, q, hq, rfl⟩ := h
    simp [rows_each l q hq]
theorem RA_each (l : List Ax) : ∀ r, r ∈ RA l → r.length = l.length := by
  intro r hr
  unfold RA at hr
  split at hr
  · rw [rows_each _ r hr]; simp [vlsA]
  · cases hr
theorem RowsR.all {l : List Ax} {L L' : RL} {v : Value} (h : RowsR l L v L') : ∃ A c t HY, v = .tuple #[.slice A (RA l).length c, .int .i64 (chk l : Nat)] ∧ t.map (·.2) = RA l ∧ GV tS 1 [] (.slice A (RA l).length c) (RA l).length (rvs t) HY ∧ L' = HY ++ (rrs t ++ L) := by
  rcases h with ⟨h1, h2, h3⟩ | ⟨h1, A, c, t, HY, h2, h3, h4, h5⟩
  · have e : RA l = [] := by unfold RA; rw [if_neg h1]
    rw [e]
    exact ⟨none, 0, [], [], h2, rfl, .nil, h3⟩
  · have e : RA l = rowsL (vlsA l) := by unfold RA; rw [if_pos h1]
    have e2 : (rowsL (vlsA l)).length = cnt (nsA l) := by rw [rows_len]; simp [lens, vlsA, nsA, Function.comp_def]
    rw [e, e2, h1]
    exact ⟨A, c, t, HY, h2, h3, h4, h5⟩
theorem RefR.all {l : List Ax} {L L' : RL} {v : Value} (h : RefR l L v L') : ∃ A c Z, v = .tuple #[.slice A (RA l).length c, .int .i64 (chk l : Nat)] ∧ L' = Z ++ L ∧ LL Z (.slice A (RA l).length c) (RA l) := by
  rcases h with ⟨h1, h2, h3⟩ | ⟨h1, A, c, Z, h2, h3, h4⟩
  · have e : RA l = [] := by unfold RA; rw [if_neg h1]
    rw [e]
    exact ⟨none, 0, [], h2, h3, [], .inl ⟨rfl, rfl, rfl⟩, by intro i w h; simp at h⟩
  · have e : RA l = rowsL (vlsA l) := by unfold RA; rw [if_pos h1]
    have e2 : (rowsL (vlsA l)).length = cnt (nsA l) := by rw [rows_len]; simp [lens, vlsA, nsA, Function.comp_def]
    rw [e, e2, h1]
    exact ⟨A, c, Z, h2, h3, h4⟩
/-- Rows of the same names and lengths. -/
def SameKey (t t' : List (Nat × List W)) : Prop := t'.map (fun x => (x.1, x.2.length)) = t.map (fun x => (x.1, x.2.length))
theorem rvs_key {t t' : List (Nat × List W)} (h : SameKey t t') : rvs t' = rvs t := by
  have e : ∀ t : List (Nat × List W), rvs t = (t.map (fun x => (x.1, x.2.length))).map fun x : Nat × Nat => Value.slice (some ⟨x.1, 0, none⟩) x.2 openCap := fun t => by simp [rvs]
  rw [e, e, h]
theorem SameKey.at {t t' : List (Nat × List W)} (h : SameKey t t') {i r : Nat} {w : List W} (hi : t[i]? = some (r, w)) : ∃ w', t'[i]? = some (r, w') ∧ w'.length = w.length := by
  have h1 : (t'.map (fun x => (x.1, x.2.length)))[i]? = some (r, w.length) := by rw [h, List.getElem?_map, hi]; rfl
  rw [List.getElem?_map] at h1
  obtain ⟨x, h2, h3⟩ := Option.map_eq_some_iff.1 h1
  obtain ⟨r', w'⟩ := x
  simp at h3
  exact ⟨w', by rw [h2, h3.1], h3.2⟩
theorem SameKey.set {t t' : List (Nat × List W)} (h : SameKey t t') {i r : Nat} {w' w2 : List W} (hi : t'[i]? = some (r, w')) (hl : w2.length = w'.length) : SameKey t (t'.set i (r, w2)) := by
  unfold SameKey at h ⊢
  rw [List.map_set, ← h]
  simp only [hl]
  apply List.ext_getElem?
  intro j
  rw [List.getElem?_set]
  split
  · rename_i hij
    subst hij
    rw [List.getElem?_map, hi]
    split
    · rfl
    · rename_i hn
      have := (List.getElem?_eq_some_iff.1 hi).1
      simp at hn; omega
  · rfl
theorem rrs_get {t : List (Nat × List W)} {R : RL} {i r : Nat} {w : List W} (h : t[i]? = some (r, w)) : (rrs t ++ R)[i]? = some (r, ARow.cells 9 (strs w)) := by
  have hl := (List.getElem?_eq_some_iff.1 h).1
  rw [List.getElem?_append_left (by simpa [rrs] using hl), rrs, List.getElem?_map, h]; rfl
theorem setL_to : ∀ {L : RL} {i : Nat} {x : Nat × ARow}, i < L.length → setL L i x = some (L.set i x)
  | [], _, _, h => by simp at h
  | y :: L, 0, x, _ => rfl
  | y :: L, i + 1, x, h => by
    simp only [setL, setL_to (L := L) (i := i) (x := x) (by simpa using h)]; rfl
theorem rrs_set {t : List (Nat × List W)} {R : RL} {i r : Nat} {w w2 : List W} (h : t[i]? = some (r, w)) : setL (rrs t ++ R) i (r, ARow.cells 9 (strs w2)) = some (rrs (t.set i (r, w2)) ++ R) := by
  have hl := (List.getElem?_eq_some_iff.1 h).1
  rw [setL_to (by simp [rrs]; omega), List.set_append_left _ _ (by simpa [rrs] using hl)]
  simp [rrs, List.map_set]
theorem eqV (s u : W) : eqB Try.prog 100 tV (.agg #[str s, str u]) (.agg #[str s, str u]) = some true := by
  have e : eqB Try.prog 100 tV (.agg #[str s, str u]) (.agg #[str s, str u]) = (match some (bytesEq s s) with | some true => (match some (bytesEq u u) with | some true => some true | r => r) | r => r) := by kernel_rfl
  rw [e, same_bytes, same_bytes]
theorem rowsLaw_ct {L : RL} {v rv : Value} {l : List Ax} {cs : List Value} {row : List W} (hv : SV 2 L v l.length cs) (hx : AxR L l cs) (hn : l.length ≤ 140737488355328) (hm : ∀ x, x ∈ l → x.1.length ≤ 140737488355328 ∧ x.2.length * 16 ≤ 140737488355328 ∧ ∀ w, w ∈ x.2 → w.length ≤ 140737488355328)
    (hr : SV 1 L rv row.length (strs row)) (hrn : row.length ≤ 140737488355328) (hrw : ∀ w ∈ row, w.length ≤ 140737488355328) :
    CS Try.prog 4 [v, rv] L fun u _ => u = .bool true := by
  have aw : ∀ L : RL, CS Try.prog 14 [] L fun v L' => v = .bool true ∧ L' = L := fun L => awake_ct
  have hm2 : ∀ x, x ∈ l → x.2.length ≤ 140737488355328 := fun x hx => by have := (hm x hx).2.1; omega
  refine CS.mk (fn := Try.f4) rfl rfl rfl rfl ?_
  refine yG ?_
  refine OS.call noGo rfl (fun _ => rfl) ((large_ct hv hx hn (fun x hx => ⟨(hm x hx).1, hm2 x hx, (hm x hx).2.2⟩)).mono ?_)
  rintro v' L2 ⟨b, rfl, hb, hL⟩
  rw [hL]
  clear hL
  rcases tf b with h1 | h1
  · rw [h1]
    refine yG ?_
    refine OS.call noGo rfl (fun _ => rfl) ((aw _).mono ?_)
    rintro v' L2 ⟨rfl, hL⟩
    refine yG ?_
    rfl
  have hl3 := hb h1
  rw [h1]
  refine yG ?_
  refine OS.call noGo rfl (fun _ => rfl) ((long_ct hr hrn hrw).mono ?_)
  rintro v' L2 ⟨b2, rfl, hb2, hL⟩
  rw [hL]
  clear hL
  rcases tf b2 with h2 | h2
  · rw [h2]
    refine yG ?_
    refine OS.call noGo rfl (fun _ => rfl) ((aw _).mono ?_)
    rintro v' L2 ⟨rfl, hL⟩
    refine yG ?_
    rfl
  have hr3 := hb2 h2
  rw [h2]
  have hRl := RA_len l
  have hRe := RA_each l
  refine yG ?_
  refine OS.call noGo rfl (fun _ => rfl) ((given_ct hv hx (by omega) (fun x hx => (hm x hx).2.1)).mono ?_)
  rintro iv L2 ⟨cs', HY0, Y, rfl, hg0, hA0⟩
  obtain ⟨iA, ic, rfl⟩ := hg0.sv.form
  have hin : SV 2 (HY0 ++ (Y ++ L)) (.slice iA l.length ic) l.length cs' := hg0.sv.mono fun p hp => List.mem_append_left _ hp
  have hinx : AxR (HY0 ++ (Y ++ L)) l cs' := hA0.mono fun p hp => List.mem_append_right _ (List.mem_append_left _ hp)
  have hvM := hv.mono (L' := HY0 ++ (Y ++ L)) fun p hp => List.mem_append_right _ (List.mem_append_right _ hp)
  have hxM := hx.mono (M' := HY0 ++ (Y ++ L)) fun p hp => List.mem_append_right _ (List.mem_append_right _ hp)
  have hrM := hr.mono (L' := HY0 ++ (Y ++ L)) fun p hp => List.mem_append_right _ (List.mem_append_right _ hp)
  generalize HY0 ++ (Y ++ L) = M at hin hinx hvM hxM hrM
  clear hg0 hA0 hv hx hr
  refine yG ?_
  refine OS.call noGo rfl (fun _ => rfl) ((Rows_ct hin hinx (by omega) hm2).mono ?_)
  intro v' L2 h
  obtain ⟨A1, c1, t, HY1, rfl, ht, hg1, rfl⟩ := h.all
  clear h
  have up1 : ∀ p, p ∈ M → p ∈ HY1 ++ (rrs t ++ M) := fun p hp => List.mem_append_right _ (List.mem_append_right _ hp)
  refine yG ?_
  refine OS.call noGo rfl (fun _ => rfl) ((refRows_ct (hvM.mono up1) (hxM.mono up1) (by omega) hm2).mono ?_)
  intro v' L2 h
  obtain ⟨A2, c2, Z, rfl, rfl, hLL⟩ := h.all
  clear h
  have q1 : (!ieqB ((chk l : Nat) : Int) ((chk l : Nat) : Int)) = false := by rw [ieqB_eq]; simp
  have hLL1 : LL (Z ++ (HY1 ++ (rrs t ++ M))) (.slice A1 (RA l).length c1) (RA l) := rows_LL hg1 rfl ht (fun p hp => by simp [hp]) (fun p hp => by simp [hp])
  refine yG ?_
  refine OS.call noGo rfl (fun _ => rfl) ((Same14_ct hLL1 (hLL.mono fun p hp => List.mem_append_left _ hp) (by omega) (fun r hr => by rw [hRe r hr]; omega)).mono ?_)
  rintro v' L2 ⟨rfl, hL⟩
  rw [hL]
  clear hL hLL1
  have hk0 : SameKey t t := rfl
  have hgv : SV 1 (Z ++ (HY1 ++ M)) (.slice A1 (RA l).length c1) (RA l).length (rvs t) := hg1.sv.mono fun p hp => by simp [hp]
  have hLZ : LL (Z ++ (HY1 ++ M)) (.slice A2 (RA l).length c2) (RA l) := hLL.mono fun p hp => by simp [hp]
  have upR : ∀ p, p ∈ M → p ∈ Z ++ (HY1 ++ M) := fun p hp => by simp [hp]
  have hinR := hin.mono upR
  have hinxR := hinx.mono upR
  have hvR := hvM.mono upR
  have hxR := hxM.mono upR
  have hrR := hrM.mono upR
  clear hin hinx hvM hxM hrM up1 hg1 hLL upR
  refine ⟨_, rfl, ?_⟩
  refine OS.sub (Sub.sums (A := rrs t ++ (Z ++ (HY1 ++ M))) fun f => by simp <;> omega) ?_
  generalize Z ++ (HY1 ++ M) = N at hgv hLZ hinR hinxR hvR hxR hrR
  refine yG ?_
  refine LS.loopJ [0, 1, 5, 6, 8, 10] (fun q a L' => ∃ (i : Nat) (t' : List (Nat × List W)), q = (RA l).length - i ∧ i ≤ (RA l).length ∧ SameKey t t' ∧ L' = rrs t' ++ N ∧ a = [v, rv, .chan none, .chan none, .chan none, .slice iA l.length ic, .slice A1 (RA l).length c1, .chan none, .slice A2 (RA l).length c2, .chan none, .int .i64 (i : Nat), .chan none, .chan none, .chan none, .chan none, .chan none, .chan none, .chan none, .chan none, .chan none, .chan none, .chan none, .chan none, .chan none, .chan none, .chan none, .chan none, .chan none, .chan none, .chan none, .chan none, .chan none, .chan none, .chan none, .chan none, .chan none, .chan none, .chan none, .chan none, .chan none, .chan none, .chan none, .chan none, .chan none, .chan none, .chan none, .chan none, .chan none, .chan none, .chan none, .chan none, .chan none, .chan none, .chan none, .chan none, .chan none, .chan none, .chan none, .chan none, .chan none, .chan none, .chan none, .chan none, .chan none, .chan none, .chan none, .chan none, .chan none, .chan none, .chan none, .chan none, .chan none, .chan none, .chan none, .chan none, .chan none, .chan none, .chan none, .chan none, .chan none, .chan none, .chan none, .chan none, .chan none, .chan none, .chan none, .chan none, .chan none, .chan none, .chan none, .chan none, .chan none, .chan none, .chan none, .chan none, .chan none, .chan none, .chan none, .chan none, .chan none, .chan none, .chan none, .chan none, .chan none]) (n := (RA l).length) rfl ⟨0, t, rfl, by omega, rfl, rfl, rfl⟩ ?_
  rintro q a L' ⟨i, t', rfl, hi, hk, rfl, rfl⟩
  refine yG ?_
  repeat refine LS.seq ?_
  refine LS.cond rfl (fun hc => ?_) (fun hc => ?_)
  · have hc := lt_of hc
    obtain ⟨w, hw⟩ := ext_list (l := RA l) (k := i) (by omega)
    obtain ⟨r, hti⟩ := map_at ht hw
    have hwl := hRe w (List.mem_of_getElem? hw)
    have hri := rvs_at hti
    refine LS.skip ?_
    refine yG ?_
    refine LS.loopJ [0, 1, 5, 6, 8, 10, 11] (fun q a L' => ∃ (j : Nat) (t' : List (Nat × List W)), q = w.length - j ∧ j ≤ w.length ∧ SameKey t t' ∧ L' = rrs t' ++ N ∧ a = [v, rv, .chan none, .chan none, .chan none, .slice iA l.length ic, .slice A1 (RA l).length c1, .chan none, .slice A2 (RA l).length c2, .chan none, .int .i64 (i : Nat), .int .i64 (j : Nat), .chan none, .chan none, .chan none, .chan none, .chan none, .chan none, .chan none, .chan none, .chan none, .chan none, .chan none, .chan none, .chan none, .chan none, .chan none, .chan none, .chan none, .chan none, .chan none, .chan none, .chan none, .chan none, .chan none, .chan none, .chan none, .chan none, .chan none, .chan none, .chan none, .chan none, .chan none, .chan none, .chan none, .chan none, .chan none, .chan none, .chan none, .chan none, .chan none, .chan none, .chan none, .chan none, .chan none, .chan none, .chan none, .chan none, .chan none, .chan none, .chan none, .chan none, .chan none, .chan none, .chan none, .chan none, .chan none, .chan none, .chan none, .chan none, .chan none, .chan none, .chan none, .chan none, .chan none, .chan none, .chan none, .chan none, .chan none, .chan none, .chan none, .chan none, .chan none, .chan none, .chan none, .chan none, .chan none, .chan none, .chan none, .chan none, .chan none, .chan none, .chan none, .chan none, .chan none, .chan none, .chan none, .chan none, .chan none, .chan none, .chan none, .chan none, .chan none, .chan none]) (n := w.length) rfl ⟨0, t', rfl, by omega, hk, rfl, rfl⟩ ?_
    clear hk
    rintro q a L' ⟨j, t', rfl, hj, hk, rfl, rfl⟩
    have hgvL : SV 1 (rrs t' ++ N) (.slice A1 (RA l).length c1) (RA l).length (rvs t) := hgv.mono fun p hp => List.mem_append_right _ hp
    refine yG ?_
    refine OS.at1 (j := i) (hgvL) (hri) rfl rfl rfl rfl rfl rfl (fun ra0 oa0 rowa0 csa0 ma0 ca0 ga0 => ⟨_, rfl, ?_⟩)
    refine OS.read rfl (e_loadm ma0 ca0 rfl rfl (part_one rfl ga0)) rfl ?_
    refine yG ?_
    repeat refine LS.seq ?_
    refine LS.cond rfl (fun hc2 => ?_) (fun hc2 => ?_)
    · have hc2 := lt_of hc2
      obtain ⟨w', hti', hwl'⟩ := hk.at hti
      have hjw : j < w'.length := by have : (j : Int) < (w.length : Nat) := hc2; omega
      refine LS.skip ?_
      refine yG ?_
      refine OS.at1 (j := i) (hgvL) (hri) rfl rfl rfl rfl rfl rfl (fun ra2 oa2 rowa2 csa2 ma2 ca2 ga2 => ⟨_, rfl, ?_⟩)
      refine OS.read rfl (e_loadm ma2 ca2 rfl rfl (part_one rfl ga2)) rfl ?_
      refine yG ?_
      refine OS.pure rfl (e_index (j := j) (sz := 1) rfl rfl rfl rfl rfl (by omega)) rfl ?_
      refine OS.write rfl (e_store i (n := 1) (cs' := strs (w'.set j [115, 112, 111, 105, 108, 116])) rfl rfl rfl (rrs_get hti') rfl rfl (by show lay (strs w') (0 + j * 1) _ = _; rw [show 0 + j * 1 = j by omega, ← strs_set]; exact lay_one (by rw [strs_len]; omega)) (rrs_set hti')) rfl ?_
      refine yG ?_
      exact ⟨w.length - (j + 1), by omega, j + 1, _, rfl, by omega, hk.set hti' (by simp), rfl, rfl⟩
    · have hc2 := nlt_of hc2
      refine LS.exit ?_
      refine yG ?_
      exact ⟨(RA l).length - (i + 1), by omega, i + 1, t', rfl, by omega, hk, rfl, rfl⟩
  · have hc := nlt_of hc
    refine LS.exit ?_
    have upT : ∀ p, p ∈ N → p ∈ rrs t' ++ N := fun p hp => List.mem_append_right _ hp
    have hin2 := hinR.mono upT
    have hinx2 := hinxR.mono upT
    have hv2 := hvR.mono upT
    have hx2 := hxR.mono upT
    have hr2 := hrR.mono upT
    have hLL2 := hLZ.mono upT
    generalize rrs t' ++ N = K at hin2 hinx2 hv2 hx2 hr2 hLL2
    refine yG ?_
    refine OS.call noGo rfl (fun _ => rfl) ((Rows_ct hin2 hinx2 (by omega) hm2).mono ?_)
    intro v' L2 h
    obtain ⟨A3, c3, t3, HY3, rfl, ht3, hg3, rfl⟩ := h.all
    clear h
    have up3 : ∀ p, p ∈ K → p ∈ HY3 ++ (rrs t3 ++ K) := fun p hp => List.mem_append_right _ (List.mem_append_right _ hp)
    have hLL3 : LL (HY3 ++ (rrs t3 ++ K)) (.slice A3 (RA l).length c3) (RA l) := rows_LL hg3 rfl ht3 (fun p hp => by simp [hp]) (fun p hp => by simp [hp])
    have hLL4 := hLL2.mono up3
    have hin3 := hin2.mono up3
    have hinx3 := hinx2.mono up3
    have hv3 := hv2.mono up3
    have hx3 := hx2.mono up3
    have hr4 := hr2.mono up3
    generalize HY3 ++ (rrs t3 ++ K) = K3 at hLL3 hLL4 hin3 hinx3 hv3 hx3 hr4
    obtain ⟨m, hmm⟩ : ∃ m, min l.length row.length = m := ⟨_, rfl⟩
    have hml : m ≤ l.length := by rw [← hmm]; exact Nat.min_le_left _ _
    have hmr : m ≤ row.length := by rw [← hmm]; exact Nat.min_le_right _ _
    refine yG ?_
    refine OS.call noGo rfl (fun _ => rfl) ((Vars_m hmm hin3 hinx3 hr4 (by omega)).mono ?_)
    rintro v' L2 ⟨r4, vs4, rfl, rfl, hvl4, hok4⟩
    refine yG ?_
    refine OS.call noGo rfl (fun _ => rfl) ((refVars_ct hv3.cons (hx3.mono fun p hp => List.mem_cons_of_mem _ hp) hr4.cons (by omega) (by omega)).mono ?_)
    rw [hmm]
    rintro v' L2 ⟨vs5, hg5, hok5⟩
    have hs5 := hg5.sv
    have hs4 : SV 2 L2 (.slice (some ⟨r4, 0, none⟩) m m) m vs4 := SV.row (hg5.mem _ (List.mem_cons_self ..)) hvl4
    have hLL5 := hLL3.mono fun p hp => hg5.mem p (List.mem_cons_of_mem _ hp)
    have hLL6 := hLL4.mono fun p hp => hg5.mem p (List.mem_cons_of_mem _ hp)
    obtain ⟨A5, c5, rfl⟩ := hs5.form
    clear hg5
    have q2 : (!ieqB ((m : Nat) : Int) ((m : Nat) : Int)) = false := by rw [ieqB_eq]; simp
    refine yG ?_
    refine OS.call noGo rfl (fun _ => rfl) ((Same14_ct hLL5 hLL6 (by omega) (fun r hr => by rw [hRe r hr]; omega)).mono ?_)
    rintro v' L3 ⟨rfl, hL⟩
    rw [hL]
    clear hL
    refine yG ?_
    refine LS.loopJ [14, 15, 16] (fun q a L' => ∃ (k : Nat), q = m - k ∧ k ≤ m ∧ L' = L2 ∧ a = [.chan none, .chan none, .chan none, .chan none, .chan none, .chan none, .chan none, .chan none, .chan none, .chan none, .chan none, .chan none, .chan none, .chan none, .slice (some ⟨r4, 0, none⟩) m m, .slice A5 m c5, .int .i64 (k : Nat), .chan none, .chan none, .chan none, .chan none, .chan none, .chan none, .chan none, .chan none, .chan none, .chan none, .chan none, .chan none, .chan none, .chan none, .chan none, .chan none, .chan none, .chan none, .chan none, .chan none, .chan none, .chan none, .chan none, .chan none, .chan none, .chan none, .chan none, .chan none, .chan none, .chan none, .chan none, .chan none, .chan none, .chan none, .chan none, .chan none, .chan none, .chan none, .chan none, .chan none, .chan none, .chan none, .chan none, .chan none, .chan none, .chan none, .chan none, .chan none, .chan none, .chan none, .chan none, .chan none, .chan none, .chan none, .chan none, .chan none, .chan none, .chan none, .chan none, .chan none, .chan none, .chan none, .chan none, .chan none, .chan none, .chan none, .chan none, .chan none, .chan none, .chan none, .chan none, .chan none, .chan none, .chan none, .chan none, .chan none, .chan none, .chan none, .chan none, .chan none, .chan none, .chan none, .chan none, .chan none, .chan none, .chan none, .chan none]) (n := m) rfl ⟨0, rfl, by omega, rfl, rfl⟩ ?_
    rintro q a L' ⟨k, rfl, hk5, hL, rfl⟩
    rw [hL]
    clear hL
    refine yG ?_
    repeat refine LS.seq ?_
    refine LS.cond rfl (fun hc5 => ?_) (fun hc5 => ?_)
    · have hc5 := lt_of hc5
      obtain ⟨x, hxk⟩ := ext_list (l := l) (k := k) (by omega)
      obtain ⟨w, hwk⟩ := ext_list (l := row) (k := k) (by omega)
      obtain ⟨a1, a2⟩ := hok4 k x w (by omega) hxk hwk
      obtain ⟨b1, b2⟩ := hok5 k x w (by omega) hxk hwk
      have hl5 := hs5.len
      have cut2 : ∀ {cs : List Value}, cs.length = m * 2 → cs[k * 2 + 0]? = some (str x.1) → cs[k * 2 + 1]? = some (str w) → cut cs (k * 2) 2 = some [str x.1, str w] := fun {cs} hl e1 e2 => by
        rw [cut_of (by omega), Option.some.injEq]
        have hd : cs.drop (k * 2) = str x.1 :: str w :: cs.drop (k * 2 + 2) := by
          have d1 := drop_at (k := k * 2) e1
          have d2 := drop_at (k := k * 2 + 1) e2
          rw [d1, d2]
        rw [hd]; rfl
      have ev := eqV x.1 w
      refine LS.skip ?_
      refine yG ?_
      repeat refine LS.seq ?_
      refine LS.drawn noGo mixed [(0, false), (1, false), (2, false), (3, false), (4, false), (5, false), (6, false), (7, false), (8, false)] rfl rfl (by kernel_rfl) ?_
      refine yG ?_
      refine ODS.at (j := k) hs4 (by omega) rfl rfl rfl rfl rfl rfl rfl (fun r0 o0 row0 cs0 m0 c0 h0 k0 => ?_)
      refine ⟨_, rfl, ?_⟩
      refine ODS.read rfl rfl (e_loadm m0 c0 rfl rfl (part_agg rfl rfl (k0 _ (cut2 hvl4 a1 a2)))) rfl ?_
      refine yG ?_
      refine ODS.at (j := k) hs5 (by omega) rfl rfl rfl rfl rfl rfl rfl (fun r1 o1 row1 cs1 m1 c1 h1 k1 => ?_)
      refine ⟨_, rfl, ?_⟩
      refine ODS.read rfl rfl (e_loadm m1 c1 rfl rfl (part_agg rfl rfl (k1 _ (cut2 hl5 b1 b2)))) rfl ?_
      refine ODS.pure rfl rfl (e_neqA rfl rfl rfl ev (by kernel_rfl)) rfl ?_
      refine yG ?_
      exact ⟨m - (k + 1), by omega, k + 1, rfl, by omega, rfl, rfl⟩
    · refine LS.exit ?_
      refine yG ?_
      refine OS.call noGo rfl (fun _ => rfl) ((aw _).mono ?_)
      rintro v' L3 ⟨rfl, hL⟩
      refine yG ?_
      rfl
end Go.Proofs.Ytllcbjaajffaeaa
