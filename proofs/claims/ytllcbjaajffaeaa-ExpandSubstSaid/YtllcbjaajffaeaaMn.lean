/- Layer 14: given; Vars, the program's and the document's. -/
import Derived.Test.YtllcbjaajffaeaaMm
namespace Go.Mx
theorem repL_pairs (n : Nat) : (Go.Am.repL [.string ⟨⟨[]⟩⟩, .string ⟨⟨[]⟩⟩] n).length = n * 2 := by
  unfold Go.Am.repL; simp
end Go.Mx
namespace Go.Am
theorem ODS.sub {P : Program} {ops : List Oper} {ms : List Nat} {K : Slots → RL → Prop} {sched : List (Nat × Bool)} {dn : Dn} {a : Slots} {L L₁ : RL} (s : Sub L₁ L) (k : ODS P ops ms K sched dn a L₁) : ODS P ops ms K sched dn a L := fun h H => k h (s.has H)
end Go.Am
namespace Go.Proofs.Ytllcbjaajffaeaa
open Go.Am Go.Mx
set_option linter.unusedVariables false
set_option linter.unusedSimpArgs false
set_option maxRecDepth 20000
set_option maxHeartbeats 4000000
attribute [local irreducible] OS LSr ODS CS YS OGS OT
abbrev tA : TypeId := 54
abbrev tV : TypeId := 46
theorem given_ct {F : RL} {lv : Value} {l : List Ax} {cs : List Value} (hl : SV 2 F lv l.length cs) (hI : AxR F l cs) (hn1 : l.length ≤ 1000000) (hn2 : ∀ x, x ∈ l → x.2.length * 16 ≤ 140737488355328) :
    CS Try.prog 15 [lv] F fun v L' => ∃ cs' HY Y, L' = HY ++ (Y ++ F) ∧ GV tA 2 [] v l.length cs' HY ∧ AxR Y l cs' := by
  obtain ⟨lA, lc, rfl⟩ := hl.form
  refine CS.mk (fn := Try.f15) rfl rfl rfl rfl ?_
  refine yG ?_
  refine LS.loopJ [0, 3, 4] (fun q a L' => ∃ (j : Nat) (out : Value) (cs' : List Value) (HY Y : RL), q = l.length - j ∧ j ≤ l.length ∧ GV tA 2 [] out j cs' HY ∧ L' = HY ++ (Y ++ F) ∧ AxR Y (l.take j) cs' ∧ a = [.slice lA l.length lc, .chan none, .chan none, out, .int .i64 (j : Nat), .chan none, .chan none, .chan none, .chan none, .chan none, .chan none, .chan none, .chan none, .chan none, .chan none, .chan none, .chan none, .chan none, .chan none, .chan none, .chan none, .chan none, .chan none, .chan none, .chan none, .chan none, .chan none, .chan none]) (n := l.length) rfl ⟨0, _, [], [], [], by omega, by omega, GV.nil, rfl, rfl, rfl⟩ ?_
  rintro q a L' ⟨j, out, cs', HY, Y, rfl, hj, hg, rfl, hA, rfl⟩
  by_cases hjn : j < l.length
  · have hb : (!ileB ((l.length : Nat) : Int) (j : Nat)) = true := by rw [ileB_eq]; simp; omega
    obtain ⟨x, hxj⟩ := ext_list (l := l) (k := j) hjn
    have hsn : l.take (j + 1) = l.take j ++ [x] := take_one hxj
    have hnx := hn2 _ (List.mem_of_getElem? hxj)
    obtain ⟨q0, xv, q1, hxv, q3⟩ := hI.get hxj
    obtain ⟨xA, xc, rfl⟩ := hxv.form
    have mF : ∀ p, p ∈ F → p ∈ HY ++ (Y ++ F) := fun p hp => by simp [hp]
    have hlL : SV 2 (HY ++ (Y ++ F)) (.slice lA l.length lc) l.length cs := hl.mono mF
    have hxL := hxv.mono mF
    have hlen2 := hA.len
    obtain ⟨oA, oc, rfl⟩ := hg.sv.form
    refine yG ?_
    repeat refine LS.seq ?_
    refine LS.drawn noGo mixed [(0, false), (1, false), (2, false), (3, false), (4, false), (5, false), (7, false), (8, false), (9, false), (10, false), (11, false), (6, true), (12, true), (13, false), (14, true), (15, true), (16, false)] rfl rfl (by kernel_rfl) ?_
    refine yG ?_
    refine ODS.at (j := j) hlL hjn rfl rfl rfl rfl rfl rfl rfl (fun r0 o0 row0 cs0 m0 c0 g0 k0 => ?_)
    refine ⟨_, rfl, ?_⟩
    refine yG ?_
    refine ODS.read rfl rfl (e_loadm m0 c0 rfl rfl (part_one rfl (g0 0 _ (by decide) q0))) rfl ?_
    refine yG ?_
    refine ODS.at (j := j) hlL hjn rfl rfl rfl rfl rfl rfl rfl (fun r2 o2 row2 cs2 m2 c2 g2 k2 => ?_)
    refine ⟨_, rfl, ?_⟩
    refine yG ?_
    refine ODS.read rfl rfl (e_loadm m2 c2 rfl rfl (part_one rfl (g2 1 _ (by decide) q1))) rfl ?_
    refine ODS.fresh rfl rfl (e_new (fun _ => rfl) rfl) (fun _ => rfl) (fun _ => Keep.cons rfl (e_loadm (List.mem_cons_of_mem _ m2) c2 rfl rfl (part_one rfl (g2 1 _ (by decide) q1))) (Keep.cons rfl (e_loadm (List.mem_cons_of_mem _ m0) c0 rfl rfl (part_one rfl (g0 0 _ (by decide) q0))) Keep.nil)) (fun re => ?_)
    refine ODS.turns rfl rfl (e_appOwn (sz := 1) (bts := 16) (hxL.mono fun p hp => List.mem_cons_of_mem _ hp) (strs_one _) rfl rfl rfl (by omega) (by omega)) ?_
    rintro w L₁ ⟨X, rfl, hX⟩
    refine ⟨_, rfl, Keep.gone rfl (Keep.cons rfl (e_loadm (List.mem_append_right _ (List.mem_cons_of_mem _ m0)) c0 rfl rfl (part_one rfl (g0 0 _ (by decide) q0))) Keep.nil), ?_⟩
    have hW : SV 1 (X ++ ((re, ARow.cells 9 []) :: Y)) w x.2.length (strs x.2) := by
      rcases hX with ⟨h0, rfl, rfl⟩ | ⟨r', rfl, rfl⟩
      · have hxa : x.2 = [] := List.eq_nil_of_length_eq_zero h0
        rw [hxa]
        exact .inr ⟨re, 0, 0, ARow.cells 9 [], [], rfl, by simp, rfl, rfl⟩
      · exact SV.row (e := 9) (by simp) (by simp [strs])
    obtain ⟨wA, wc, rfl⟩ := hW.form
    refine ODS.sub (Sub.sums (A := HY ++ (X ++ ((re, ARow.cells 9 []) :: (Y ++ F)))) fun f => by simp <;> omega) ?_
    refine yG ?_
    refine ODS.fresh rfl rfl (e_new (fun _ => rfl) rfl) (fun _ => rfl) (fun _ => Keep.gone rfl (Keep.gone rfl Keep.nil)) (fun rt => ?_)
    refine ODS.fresh rfl rfl (e_appendGV [(rt, _)] (e := tA) (sz := 2) (bts := 40) (m := 1) (hg.appendR (X ++ ((re, ARow.cells 9 []) :: (Y ++ F)))) (SV.row (sz := 2) (n := 1) (List.mem_cons_self ..) rfl) (by omega) rfl rfl rfl rfl (by omega) (by omega)) (fun _ => rfl) (fun _ => Keep.gone rfl (Keep.gone rfl Keep.nil)) (fun r4 => ?_)
    refine ODS.sub (Sub.trans (Sub.sums (A := [(r4, .cells tA (cs' ++ [str x.1, .slice wA x.2.length wc]))] ++ ((X ++ ((re, ARow.cells 9 []) :: Y)) ++ F)) fun f => by simp <;> omega) (Sub.drop 1 rfl)) ?_
    refine yG ?_
    exact ⟨l.length - (j + 1), by omega, j + 1, _, _, _, X ++ ((re, ARow.cells 9 []) :: Y), rfl, by omega, .of (by simp [hlen2, List.length_take]; omega), rfl, by rw [hsn]; exact (hA.mono fun p hp => by simp [hp]).snoc hW, rfl⟩
  · have hb : (!ileB ((l.length : Nat) : Int) (j : Nat)) = false := by rw [ileB_eq]; simp; omega
    rw [List.take_of_length_le (by omega)] at hA
    obtain rfl : j = l.length := by omega
    refine yG ?_
    refine LS.exit ?_
    refine yG ?_
    exact ⟨cs', HY, Y, rfl, hg, hA⟩
/-- Variables, as cells. -/
def VarsOk (l : List Ax) (row : List W) (m : Nat) (cs : List Value) : Prop := ∀ (j : Nat) (x : Ax) (w : W), j < m → l[j]? = some x → row[j]? = some w → cs[j * 2 + 0]? = some (str x.1) ∧ cs[j * 2 + 1]? = some (str w)
theorem mkVars : makeT Try.prog 22 = some (tV, 2, 32, [.string ⟨⟨[]⟩⟩, .string ⟨⟨[]⟩⟩]) := by kernel_rfl
theorem Vars_ct {L : RL} {lv rv : Value} {l : List Ax} {cs : List Value} {row : List W} (hv : SV 2 L lv l.length cs) (hx : AxR L l cs) (hr : SV 1 L rv row.length (strs row)) (hn : l.length ≤ 1000000) :
    CS Try.prog 19 [lv, rv] L fun v L' => ∃ r vs, v = .slice (some ⟨r, 0, none⟩) (min l.length row.length) (min l.length row.length) ∧ L' = (r, .cells tV vs) :: L ∧ vs.length = min l.length row.length * 2 ∧ VarsOk l row (min l.length row.length) vs := by
  have e1 : min ((l.length : Nat) : Int) ((row.length : Nat) : Int) = ((min l.length row.length : Nat) : Int) := by omega
  have hm1 : min l.length row.length ≤ l.length := Nat.min_le_left _ _
  have hm2 : min l.length row.length ≤ row.length := Nat.min_le_right _ _
  generalize hmm : min l.length row.length = m at e1 hm1 hm2
  refine CS.mk (fn := Try.f19) rfl rfl rfl rfl ?_
  refine yG ?_
  refine OS.pure rfl (e_min rfl rfl rfl) rfl ?_
  rw [e1]
  refine OS.fresh rfl (e_make (l := m) (c := m) rfl rfl rfl mkVars (Nat.le_refl _) (by omega) (by omega)) (fun _ => rfl) (fun r => ?_)
  have hz : (repL [.string ⟨⟨[]⟩⟩, .string ⟨⟨[]⟩⟩] m).length = m * 2 := repL_pairs m
  generalize (repL [Value.string ⟨⟨[]⟩⟩, Value.string ⟨⟨[]⟩⟩] m) = zs at hz ⊢
  refine yG ?_
  refine LS.loopJ [0, 1, 5, 14, 15] (fun q a L' => ∃ (k : Nat) (vs : List Value), q = m - k ∧ k ≤ m ∧ vs.length = m * 2 ∧ VarsOk l row k vs ∧ L' = (r, .cells tV vs) :: L ∧ a = [lv, rv, .chan none, .chan none, .chan none, .slice (some ⟨r, 0, none⟩) m m, .chan none, .chan none, .chan none, .chan none, .chan none, .chan none, .chan none, .chan none, .int .i64 (m : Nat), .int .i64 (k : Nat), .chan none, .chan none, .chan none, .chan none, .chan none, .chan none, .chan none, .chan none, .chan none, .chan none, .chan none, .chan none, .chan none, .chan none, .chan none, .chan none, .chan none]) (n := m) rfl ⟨0, zs, rfl, by omega, hz, fun j x w h => by omega, rfl, rfl⟩ ?_
  rintro q a L' ⟨k, vs, rfl, hk, hvl, hok, rfl, rfl⟩
  refine yG ?_
  repeat refine LS.seq ?_
  refine LS.cond rfl (fun hc => ?_) (fun hc => ?_)
  · have hc := lt_of hc
    obtain ⟨x, hxk⟩ := ext_list (l := l) (k := k) (by omega)
    obtain ⟨w, hwk⟩ := ext_list (l := row) (k := k) (by omega)
    obtain ⟨g0, b, g1, g2, g3⟩ := hx.get hxk
    refine LS.skip ?_
    refine yG ?_
    repeat refine LS.seq ?_
    refine LS.drawn noGo mixed [(0, false), (1, false), (2, false), (3, false), (4, false), (5, false), (6, false), (7, false), (8, false), (9, false), (10, false), (11, false), (12, false), (13, true)] rfl rfl (by kernel_rfl) ?_
    refine yG ?_
    refine ODS.at (j := k) hv.cons (by omega) rfl rfl rfl rfl rfl rfl rfl (fun r0 o0 row0 cs0 m0 c0 h0 k0 => ?_)
    refine ⟨_, rfl, ?_⟩
    refine yG ?_
    refine ODS.read rfl rfl (e_loadm m0 c0 rfl rfl (part_one rfl (h0 0 _ (by omega) g0))) rfl ?_
    refine yG ?_
    refine ODS.at1 (j := k) (hr.cons) (strs_at hwk) rfl rfl rfl rfl rfl rfl rfl (fun ra2 oa2 rowa2 csa2 ma2 ca2 ga2 => ⟨_, rfl, ?_⟩)
    refine ODS.read rfl rfl (e_loadm ma2 ca2 rfl rfl (part_one rfl ga2)) rfl ?_
    refine yG ?_
    refine ODS.pure rfl rfl (e_index (j := k) (sz := 2) rfl rfl rfl rfl rfl (by omega)) rfl ?_
    refine ODS.write rfl rfl (e_store 0 (n := 2) (cs' := vs.take (0 + k * 2) ++ ([str x.1, str w] ++ vs.drop (0 + k * 2 + 2))) rfl rfl rfl rfl rfl rfl (lay_of (by show 0 + k * 2 + 2 ≤ vs.length; omega)) rfl) rfl (by repeat (first | exact Keep.nil | refine Keep.gone rfl ?_)) ?_
    refine yG ?_
    refine ⟨m - (k + 1), by omega, k + 1, _, rfl, by omega, by simp [hvl]; omega, fun j y z hj hy hz2 => ?_, rfl, rfl⟩
    rw [Nat.zero_add]
    have htl : (vs.take (k * 2)).length = k * 2 := by rw [List.length_take]; omega
    by_cases hjk : j < k
    · obtain ⟨a1, a2⟩ := hok j y z hjk hy hz2
      constructor
      · rw [List.getElem?_append_left (by omega), List.getElem?_take_of_lt (by omega)]; exact a1
      · rw [List.getElem?_append_left (by omega), List.getElem?_take_of_lt (by omega)]; exact a2
    · obtain rfl : j = k := by omega
      rw [hxk] at hy
      rw [hwk] at hz2
      obtain rfl := Option.some.inj hy
      obtain rfl := Option.some.inj hz2
      constructor
      · rw [List.getElem?_append_right (by omega), htl, show j * 2 + 0 - j * 2 = 0 by omega]; rfl
      · rw [List.getElem?_append_right (by omega), htl, show j * 2 + 1 - j * 2 = 1 by omega]; rfl
  · have hc := nlt_of hc
    obtain rfl : k = m := by omega
    refine LS.exit ?_
    refine yG ?_
    exact ⟨r, vs, rfl, rfl, hvl, hok⟩
theorem refVars_ct {L : RL} {lv rv : Value} {l : List Ax} {cs : List Value} {row : List W} (hv : SV 2 L lv l.length cs) (hx : AxR L l cs) (hr : SV 1 L rv row.length (strs row)) (hn : l.length ≤ 1000000) (hrn : row.length ≤ 140737488355328) :
    CS Try.prog 20 [lv, rv] L fun v L' => ∃ vs, GV tV 2 L v (min l.length row.length) vs L' ∧ VarsOk l row (min l.length row.length) vs := by
  have hm1 : min l.length row.length ≤ l.length := Nat.min_le_left _ _
  have hm2 : min l.length row.length ≤ row.length := Nat.min_le_right _ _
  have hm3 : min l.length row.length = l.length ∨ min l.length row.length = row.length := by omega
  generalize min l.length row.length = m at hm1 hm2 hm3
  refine CS.mk (fn := Try.f20) rfl rfl rfl rfl ?_
  refine yG ?_
  refine LS.loopJ [0, 1, 5, 6] (fun q a L' => ∃ (k : Nat) (ov : Value) (vs : List Value), q = m - k ∧ k ≤ m ∧ GV tV 2 L ov k vs L' ∧ VarsOk l row k vs ∧ a = [lv, rv, .chan none, .chan none, .chan none, ov, .int .i64 (k : Nat), .chan none, .chan none, .chan none, .chan none, .chan none, .chan none, .chan none, .chan none, .chan none, .chan none, .chan none, .chan none, .chan none, .chan none, .chan none, .chan none, .chan none, .chan none, .chan none, .chan none, .chan none, .chan none, .chan none, .chan none, .chan none, .chan none]) (n := m) rfl ⟨0, _, [], rfl, by omega, .nil, fun j x w h => by omega, rfl⟩ ?_
  rintro q a L' ⟨k, ov, vs, rfl, hk, hg, hok, rfl⟩
  by_cases hkm : k < m
  · have b1 : (!ileB ((l.length : Nat) : Int) (k : Nat)) = true := by rw [ileB_eq]; simp; omega
    have b2 : (!ileB ((row.length : Nat) : Int) (k : Nat)) = true := by rw [ileB_eq]; simp; omega
    obtain ⟨x, hxk⟩ := ext_list (l := l) (k := k) (by omega)
    obtain ⟨w, hwk⟩ := ext_list (l := row) (k := k) (by omega)
    obtain ⟨g0, b, g1, g2, g3⟩ := hx.get hxk
    have hvl := hg.sv.len
    refine yG ?_
    repeat refine LS.seq ?_
    refine LS.drawn noGo mixed [(0, false), (1, false), (2, false), (3, false), (4, false), (5, false), (6, false), (7, false), (8, false), (9, false), (10, false), (11, true), (12, true), (13, false)] rfl rfl (by kernel_rfl) ?_
    refine yG ?_
    refine ODS.at (j := k) (hv.mono hg.mem) (by omega) rfl rfl rfl rfl rfl rfl rfl (fun r0 o0 row0 cs0 m0 c0 h0 k0 => ?_)
    refine ⟨_, rfl, ?_⟩
    refine yG ?_
    refine ODS.read rfl rfl (e_loadm m0 c0 rfl rfl (part_one rfl (h0 0 _ (by omega) g0))) rfl ?_
    refine yG ?_
    refine ODS.at1 (j := k) (hr.mono hg.mem) (strs_at hwk) rfl rfl rfl rfl rfl rfl rfl (fun ra2 oa2 rowa2 csa2 ma2 ca2 ga2 => ⟨_, rfl, ?_⟩)
    refine ODS.read rfl rfl (e_loadm ma2 ca2 rfl rfl (part_one rfl ga2)) rfl ?_
    refine yG ?_
    refine ODS.fresh rfl rfl (e_new (fun _ => rfl) rfl) (fun _ => rfl) (fun _ => Keep.gone rfl (Keep.gone rfl Keep.nil)) (fun rt => ?_)
    refine ODS.fresh rfl rfl (e_appendGV [(rt, _)] (e := tV) (sz := 2) (bts := 32) (m := 1) hg (SV.row (sz := 2) (n := 1) (List.mem_cons_self ..) rfl) (by omega) rfl rfl rfl rfl (by omega) (by omega)) (fun _ => rfl) (fun _ => Keep.gone rfl (Keep.gone rfl Keep.nil)) (fun r4 => ?_)
    refine ODS.sub (Sub.drop 1 rfl) ?_
    refine yG ?_
    refine ⟨m - (k + 1), by omega, k + 1, _, _, rfl, by omega, GV.of (cs := vs ++ [str x.1, str w]) (by rw [List.length_append, hvl]; simp; omega), fun j y z hj hy hz2 => ?_, rfl⟩
    by_cases hjk : j < k
    · obtain ⟨a1, a2⟩ := hok j y z hjk hy hz2
      constructor
      · rw [List.getElem?_append_left (by omega)]; exact a1
      · rw [List.getElem?_append_left (by omega)]; exact a2
    · obtain rfl : j = k := by omega
      rw [hxk] at hy
      rw [hwk] at hz2
      obtain rfl := Option.some.inj hy
      obtain rfl := Option.some.inj hz2
      constructor
      · rw [List.getElem?_append_right (by omega), hvl, show j * 2 + 0 - j * 2 = 0 by omega]; rfl
      · rw [List.getElem?_append_right (by omega), hvl, show j * 2 + 1 - j * 2 = 1 by omega]; rfl
  · obtain rfl : k = m := by omega
    by_cases hkl : k < l.length
    · have b1 : (!ileB ((l.length : Nat) : Int) (k : Nat)) = true := by rw [ileB_eq]; simp; omega
      have b2 : (!ileB ((row.length : Nat) : Int) (k : Nat)) = false := by rw [ileB_eq]; simp; omega
      refine yG ?_
      refine LS.exit ?_
      refine yG ?_
      exact ⟨vs, hg, hok⟩
    · have b1 : (!ileB ((l.length : Nat) : Int) (k : Nat)) = false := by rw [ileB_eq]; simp; omega
      refine yG ?_
      refine LS.exit ?_
      refine yG ?_
      exact ⟨vs, hg, hok⟩
end Go.Proofs.Ytllcbjaajffaeaa
