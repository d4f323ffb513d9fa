/- Layer 14: the first example. -/
import Derived.Test.YtllcbjaajffaeaaMn
namespace Go.Proofs.Ytllcbjaajffaeaa
open Go.Am Go.Mx
set_option linter.unusedVariables false
set_option linter.unusedSimpArgs false
set_option maxRecDepth 20000
set_option maxHeartbeats 4000000
attribute [local irreducible] OS LSr ODS CS YS OGS OT
theorem rvs_at {t : List (Nat × List W)} {i : Nat} {x : Nat × List W} (h : t[i]? = some x) : (rvs t)[i]? = some (.slice (some ⟨x.1, 0, none⟩) x.2.length openCap) := by simp [rvs, h]
theorem rrs_mem {t : List (Nat × List W)} {i : Nat} {x : Nat × List W} (h : t[i]? = some x) : (x.1, ARow.cells 9 (strs x.2)) ∈ rrs t := List.mem_map_of_mem (f := fun x : Nat × List W => (x.1, ARow.cells 9 (strs x.2))) (List.mem_of_getElem? h)
theorem map_at {t : List (Nat × List W)} {R : List (List W)} (h : t.map (·.2) = R) {i : Nat} {w : List W} (hw : R[i]? = some w) : ∃ r, t[i]? = some (r, w) := by
  rw [← h, List.getElem?_map] at hw
  obtain ⟨x, h1, h2⟩ := Option.map_eq_some_iff.1 hw
  obtain ⟨r, w'⟩ := x
  simp at h2
  subst h2
  exact ⟨r, h1⟩
/-- What a list of rows tells. -/
theorem rows_LL {HY M : RL} {v : Value} {n : Nat} {t : List (Nat × List W)} {R : List (List W)} (hg : GV tS 1 [] v n (rvs t) HY) (hn : n = R.length) (ht : t.map (·.2) = R) (h1 : ∀ p, p ∈ HY → p ∈ M) (h2 : ∀ p, p ∈ rrs t → p ∈ M) : LL M v R := by
  subst hn
  refine ⟨rvs t, hg.sv.mono h1, fun i w hw => ?_⟩
  obtain ⟨r, hr⟩ := map_at ht hw
  exact ⟨_, rvs_at hr, SV.row (h2 _ (rrs_mem hr)) (by rw [strs_len]; simp)⟩
theorem Vars_m {L : RL} {lv rv : Value} {l : List Ax} {cs : List Value} {row : List W} {m : Nat} (hmm : min l.length row.length = m) (hv : SV 2 L lv l.length cs) (hx : AxR L l cs) (hr : SV 1 L rv row.length (strs row)) (hn : l.length ≤ 1000000) :
    CS Try.prog 19 [lv, rv] L fun v L' => ∃ r vs, v = .slice (some ⟨r, 0, none⟩) m m ∧ L' = (r, .cells tV vs) :: L ∧ vs.length = m * 2 ∧ VarsOk l row m vs := by
  subst hmm; exact Vars_ct hv hx hr hn
def exL : List Ax := [([111, 115], [[120], [121]]), ([110], [[49], [50], [51]])]
theorem exChk : chk exL = 0 := by decide
theorem exCnt : cnt (nsA exL) = 6 := by decide
theorem exRows : rowsL (vlsA exL) = [[[120], [49]], [[120], [50]], [[120], [51]], [[121], [49]], [[121], [50]], [[121], [51]]] := by decide
theorem awake_ct {F : RL} : CS Try.prog 14 [] F fun v L' => v = .bool true ∧ L' = F := by
  suffices h : CS Try.prog 14 [] F fun v L' => v = .bool true ∧ Sub F L' from h.less fun v L' ⟨h1, h2⟩ => ⟨F, h2, h1, rfl⟩
  refine CS.mk (fn := Try.f14) rfl rfl rfl rfl ?_
  refine yG ?_
  refine OS.fresh rfl (e_new (fun _ => rfl) rfl) (fun _ => rfl) (fun r5 => ?_)
  refine yG ?_
  refine OS.fresh rfl (e_new (fun _ => rfl) rfl) (fun _ => rfl) (fun r7 => ?_)
  refine yG ?_
  refine OS.fresh rfl (e_new (fun _ => rfl) rfl) (fun _ => rfl) (fun r9 => ?_)
  refine yG ?_
  have hx : AxR ((r9, .cells tA [str [111, 115], .slice (some ⟨r5, 0, none⟩) 2 2, str [110], .slice (some ⟨r7, 0, none⟩) 3 3]) :: (r7, .cells 9 [str [49], str [50], str [51]]) :: (r5, .cells 9 [str [120], str [121]]) :: F) exL [str [111, 115], .slice (some ⟨r5, 0, none⟩) 2 2, str [110], .slice (some ⟨r7, 0, none⟩) 3 3] :=
    ⟨_, _, rfl, SV.row (r := r5) (e := 9) (List.mem_cons_of_mem _ (List.mem_cons_of_mem _ (List.mem_cons_self ..))) rfl, _, _, rfl, SV.row (r := r7) (e := 9) (List.mem_cons_of_mem _ (List.mem_cons_self ..)) rfl, rfl⟩
  have hv : SV 2 ((r9, .cells tA [str [111, 115], .slice (some ⟨r5, 0, none⟩) 2 2, str [110], .slice (some ⟨r7, 0, none⟩) 3 3]) :: (r7, .cells 9 [str [49], str [50], str [51]]) :: (r5, .cells 9 [str [120], str [121]]) :: F) (.slice (some ⟨r9, 0, none⟩) 2 2) exL.length [str [111, 115], .slice (some ⟨r5, 0, none⟩) 2 2, str [110], .slice (some ⟨r7, 0, none⟩) 3 3] := SV.row (List.mem_cons_self ..) rfl
  refine OS.call noGo rfl (fun _ => rfl) ((Rows_ct hv hx (by decide) (by decide)).mono ?_)
  rintro v' L2 (⟨h0, _⟩ | ⟨_, A, c, t, HY, rfl, ht, hg, rfl⟩)
  · exact absurd exChk h0
  rw [exCnt] at hg ⊢
  rw [exRows] at ht
  have up : ∀ p, p ∈ (r9, ARow.cells tA [str [111, 115], .slice (some ⟨r5, 0, none⟩) 2 2, str [110], .slice (some ⟨r7, 0, none⟩) 3 3]) :: (r7, .cells 9 [str [49], str [50], str [51]]) :: (r5, .cells 9 [str [120], str [121]]) :: F → p ∈ HY ++ (rrs t ++ ((r9, ARow.cells tA [str [111, 115], .slice (some ⟨r5, 0, none⟩) 2 2, str [110], .slice (some ⟨r7, 0, none⟩) 3 3]) :: (r7, .cells 9 [str [49], str [50], str [51]]) :: (r5, .cells 9 [str [120], str [121]]) :: F)) := fun p hp => List.mem_append_right _ (List.mem_append_right _ hp)
  have hgv := hg.sv.mono (L' := HY ++ (rrs t ++ ((r9, ARow.cells tA [str [111, 115], .slice (some ⟨r5, 0, none⟩) 2 2, str [110], .slice (some ⟨r7, 0, none⟩) 3 3]) :: (r7, .cells 9 [str [49], str [50], str [51]]) :: (r5, .cells 9 [str [120], str [121]]) :: F))) fun p hp => List.mem_append_left _ hp
  have each : ∀ (i : Nat) (w : List W), [[[120], [49]], [[120], [50]], [[120], [51]], [[121], [49]], [[121], [50]], [[121], [51]]][i]? = some w → ∃ u, (rvs t)[i]? = some u ∧ SV 1 (HY ++ (rrs t ++ ((r9, ARow.cells tA [str [111, 115], .slice (some ⟨r5, 0, none⟩) 2 2, str [110], .slice (some ⟨r7, 0, none⟩) 3 3]) :: (r7, .cells 9 [str [49], str [50], str [51]]) :: (r5, .cells 9 [str [120], str [121]]) :: F))) u w.length (strs w) := fun i w hw => by
    obtain ⟨r, hr⟩ := map_at ht hw
    exact ⟨_, rvs_at hr, SV.row (List.mem_append_right _ (List.mem_append_left _ (rrs_mem hr))) (by rw [strs_len]; simp)⟩
  have hvL := hv.mono up
  have hxL := hx.mono up
  have hF : Sub F (HY ++ (rrs t ++ ((r9, ARow.cells tA [str [111, 115], .slice (some ⟨r5, 0, none⟩) 2 2, str [110], .slice (some ⟨r7, 0, none⟩) 3 3]) :: (r7, .cells 9 [str [49], str [50], str [51]]) :: (r5, .cells 9 [str [120], str [121]]) :: F))) := Sub.sums2 (HY ++ (rrs t ++ [(r9, ARow.cells tA [str [111, 115], .slice (some ⟨r5, 0, none⟩) 2 2, str [110], .slice (some ⟨r7, 0, none⟩) 3 3]), (r7, .cells 9 [str [49], str [50], str [51]]), (r5, .cells 9 [str [120], str [121]])])) fun f => by simp <;> omega
  clear hv hx up hg ht
  generalize HY ++ (rrs t ++ ((r9, ARow.cells tA [str [111, 115], .slice (some ⟨r5, 0, none⟩) 2 2, str [110], .slice (some ⟨r7, 0, none⟩) 3 3]) :: (r7, .cells 9 [str [49], str [50], str [51]]) :: (r5, .cells 9 [str [120], str [121]]) :: F)) = M at hgv each hvL hxL hF ⊢
  generalize rvs t = vs at hgv each
  obtain ⟨u5, hu5, hs5⟩ := each 5 _ rfl
  obtain ⟨u1, hu1, hs1⟩ := each 1 _ rfl
  obtain ⟨u0, hu0, hs0⟩ := each 0 _ rfl
  refine yG ?_
  refine OS.at1 (j := 5) (hgv) (hu5) rfl rfl rfl rfl rfl rfl (fun ra0 oa0 rowa0 csa0 ma0 ca0 ga0 => ⟨_, rfl, ?_⟩)
  refine OS.read rfl (e_loadm ma0 ca0 rfl rfl (part_one rfl ga0)) rfl ?_
  refine yG ?_
  refine OS.call noGo rfl (fun _ => rfl) ((Vars_m (m := 2) (by decide) hvL hxL hs5 (by decide)).mono ?_)
  rintro v' L2 ⟨rv, vc, rfl, rfl, hvl, hok⟩
  obtain ⟨ho1, ho2⟩ := hok 0 _ _ (by decide) rfl rfl
  obtain ⟨vd, rfl⟩ : ∃ vd, vc = str [111, 115] :: str [121] :: vd := by
    rcases vc with _ | ⟨a, _ | ⟨b, vd⟩⟩
    · cases ho1
    · cases ho2
    · exact ⟨vd, by
        have e1 : a = str [111, 115] := Option.some.inj ho1
        have e2 : b = str [121] := Option.some.inj ho2
        rw [e1, e2]⟩
  clear ho1 ho2 hok
  refine yG ?_
  refine OS.at1 (j := 1) (hgv.cons) (hu1) rfl rfl rfl rfl rfl rfl (fun ra0 oa0 rowa0 csa0 ma0 ca0 ga0 => ⟨_, rfl, ?_⟩)
  refine OS.read rfl (e_loadm ma0 ca0 rfl rfl (part_one rfl ga0)) rfl ?_
  refine yG ?_
  refine OS.fresh rfl (e_new (fun _ => rfl) rfl) (fun _ => rfl) (fun r30 => ?_)
  refine yG ?_
  refine OS.call noGo rfl (fun _ => rfl) ((Same02_ct hs1.cons.cons (SV.row (r := r30) (e := 9) (cs := strs [[120], [50]]) (n := 2) (by simp [strs]) rfl) (by decide)).mono ?_)
  rintro v' L2 ⟨rfl, hL⟩
  rw [hL]
  clear hL
  refine yG ?_
  refine OS.pure rfl (e_index (j := 0) (sz := 2) rfl rfl rfl rfl rfl (by omega)) rfl ?_
  have hcut : cut (str [111, 115] :: str [121] :: vd) (0 + 0 * 2) 2 = some [str [111, 115], str [121]] := by simp [cut, takeB]
  refine OS.read rfl (e_load 1 rfl rfl rfl rfl (part_agg (n := 2) rfl rfl hcut)) rfl ?_
  refine yG ?_
  refine OS.pure rfl (v := .bool true) (fun _ => by kernel_rfl) rfl ?_
  refine yG ?_
  refine OS.at1 (j := 0) (hgv.cons.cons) (hu0) rfl rfl rfl rfl rfl rfl (fun ra4 oa4 rowa4 csa4 ma4 ca4 ga4 => ⟨_, rfl, ?_⟩)
  refine OS.read rfl (e_loadm ma4 ca4 rfl rfl (part_one rfl ga4)) rfl ?_
  refine yG ?_
  refine OS.call noGo rfl (fun _ => rfl) ((Label_ct (n := [116, 101, 115, 116]) hs0.cons.cons (by decide) (by decide)).mono ?_)
  rintro v' L2 ⟨rfl, hL⟩
  rw [hL]
  clear hL
  refine yG ?_
  exact ⟨rfl, hF.trans (Sub.drops 2 rfl)⟩
end Go.Proofs.Ytllcbjaajffaeaa
