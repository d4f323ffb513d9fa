/- Layer 14: a counter is made, and goes on. -/
import Derived.Test.YtllcbjaajffaeaaMg
namespace Go.Mx
theorem repL_ints (n : Nat) : Go.Am.repL [.int .i64 0] n = (List.replicate n 0).map fun k : Nat => Go.Value.int .i64 (k : Nat) := by
  induction n with
  | zero => rfl
  | succ n ih => rw [List.replicate_succ, List.map_cons, ← ih]; rfl
theorem repL_strs (n : Nat) : Go.Am.repL [.string ⟨⟨[]⟩⟩] n = (List.replicate n []).map fun w : List UInt8 => Go.Value.string ⟨⟨w⟩⟩ := by
  induction n with
  | zero => rfl
  | succ n ih => rw [List.replicate_succ, List.map_cons, ← ih]; rfl
end Go.Mx
namespace Go.Proofs.Ytllcbjaajffaeaa
open Go.Am Go.Mx
set_option linter.unusedVariables false
set_option linter.unusedSimpArgs false
set_option maxRecDepth 20000
set_option maxHeartbeats 4000000
attribute [local irreducible] OS LSr ODS CS
def vlsA (l : List Ax) : List (List W) := l.map (·.2)
theorem ns_at {l : List Ax} {i : Nat} {x : Ax} (h : l[i]? = some x) : (nsA l)[i]? = some x.2.length := by simp [nsA, h]
theorem ns_len (l : List Ax) : (nsA l).length = l.length := by simp [nsA]
theorem vls_at {l : List Ax} {i : Nat} {x : Ax} (h : l[i]? = some x) : (vlsA l)[i]? = some x.2 := by simp [vlsA, h]
theorem goOn_ct {F : RL} {rc ra rr n : Nat} {lv : Value} {l : List Ax} {cs : List Value} {at' : List Nat} (hv : SV 2 F lv n cs) (hx : AxR F l cs) (hl : l.length = n) (hn : n ≤ 1000000) (ha : at'.length = n) (hpos : ∀ x, x ∈ l → 0 < x.2.length) (hb : ∀ x, x ∈ at' → x ≤ 1000000) :
    CS Try.prog 47 [ptr rc] (ctr rc ra rr lv n at' (pick (vlsA l) at') F) fun v L' => v = .bool (nxt (nsA l) at').2 ∧ L' = ctr rc ra rr lv n (nxt (nsA l) at').1 (pick (vlsA l) (nxt (nsA l) at').1) F := by
  have hnl : (nsA l).length = at'.length := by rw [ns_len]; omega
  have hvl : (vlsA l).length = n := by simp [vlsA, hl]
  have up : ∀ {at' : List Nat} {row : List W} {p : Nat × ARow}, p ∈ F → p ∈ ctr rc ra rr lv n at' row F := fun hp => List.mem_cons_of_mem _ (List.mem_cons_of_mem _ (List.mem_cons_of_mem _ hp))
  refine CS.mk (fn := Try.f47) rfl rfl rfl rfl ?_
  refine yG ?_
  refine OS.pure rfl (e_sub rfl rfl rfl (in_i64 (by omega) (by omega))) rfl ?_
  refine yG ?_
  refine LS.loopJ [0, 3] (fun q a L' => ∃ (j : Nat) (z : Int), q = j ∧ j ≤ n ∧ z = (j : Int) - 1 ∧ ctF (nsA l) at' j = false ∧ L' = ctr rc ra rr lv n (ctS (nsA l) at' j) (pick (vlsA l) (ctS (nsA l) at' j)) F ∧ a = [ptr rc, .chan none, .chan none, .int .i64 z, .chan none, .chan none, .chan none, .chan none, .chan none, .chan none, .chan none, .chan none, .chan none, .chan none, .chan none, .chan none, .chan none, .chan none, .chan none, .chan none, .chan none, .chan none, .chan none, .chan none, .chan none, .chan none, .chan none, .chan none, .chan none, .chan none, .chan none, .chan none, .chan none, .chan none, .chan none, .chan none, .chan none, .chan none, .chan none, .chan none, .chan none]) (n := n) rfl ⟨n, _, rfl, by omega, rfl, by rw [← ha]; exact (ctS_top _ _ hnl).2, by rw [← ha, (ctS_top _ _ hnl).1], rfl⟩ ?_
  rintro q a L' ⟨j, z, rfl, hj, hz, hf, rfl, rfl⟩
  cases q with
  | zero =>
    have hbz : ileB 0 z = false := by rw [ileB_eq, hz]; simp
    refine yG ?_
    refine LS.exit ?_
    refine yG ?_
    obtain ⟨e1, e2⟩ := ct_end (nsA l) at'
    rw [e2] at hf
    rw [e1, hf]
    exact ⟨rfl, rfl⟩
  | succ k =>
    have hz : z = ((k : Nat) : Int) := by omega
    subst hz
    have hbz : ileB 0 ((k : Nat) : Int) = true := by rw [ileB_eq]; simp
    obtain ⟨x, hxk⟩ := ext_list (l := l) (k := k) (by omega)
    obtain ⟨y, hyk⟩ := ext_list (l := at') (k := k) (by omega)
    have hy := hb y (List.mem_of_getElem? hyk)
    have hS := ctS_at (ns := nsA l) hyk
    have hSl := ctS_len (nsA l) at' hnl (k + 1)
    have hxl := hpos x (List.mem_of_getElem? hxk)
    obtain ⟨_, a, g1, g2, _⟩ := hx.get hxk
    have hxn : x.2.length ≤ 140737488355328 ∨ True := .inr trivial
    have hpl : (pick (vlsA l) (ctS (nsA l) at' (k + 1))).length = n := by rw [pick_len _ _ (by omega)]; exact hvl
    refine yG ?_
    refine OS.at1 (j := k) (SV.row (r := ra) (cap := n) (n := n) (List.mem_cons_of_mem _ (List.mem_cons_self ..)) (by rw [ints_len, hSl]; omega)) (ints_at hS) rfl rfl rfl rfl rfl rfl (fun ra0 oa0 rowa0 csa0 ma0 ca0 ga0 => ⟨_, rfl, ?_⟩)
    refine OS.read rfl (e_loadm ma0 ca0 rfl rfl (part_one rfl ga0)) rfl ?_
    refine yG ?_
    refine OS.at (j := k) (hv.mono fun p hp => up hp) (by omega) rfl rfl rfl rfl rfl rfl (fun r0 o0 row0 cs0 m0 c0 h0 k0 => ?_)
    refine ⟨_, rfl, ?_⟩
    refine yG ?_
    refine OS.read rfl (e_loadm m0 c0 rfl rfl (part_one rfl (h0 1 _ (by omega) g1))) rfl ?_
    refine OS.pure rfl (e_len g2 rfl rfl rfl rfl rfl) rfl ?_
    by_cases hlt : y + 1 < x.2.length
    · have hc : (!ileB ((x.2.length : Nat) : Int) ((y + 1 : Nat) : Int)) = true := by rw [ileB_eq]; simp; omega
      obtain ⟨w, hw⟩ := ext_list (l := x.2) (k := y + 1) hlt
      refine yG ?_
      refine OS.call noGo rfl (fun _ => rfl) ((turn_ct (at' := ctS (nsA l) at' (k + 1)) hv hx hl (by omega) hpl hxk hw).mono ?_)
      rintro v' L2 hL
      rw [hL]
      clear hL
      refine yG ?_
      have hyes := ct_yes hnl hyk (ns_at hxk) hf hlt
      rw [hyes]
      refine ⟨rfl, ?_⟩
      simp only []
      rw [pick_set _ _ _ _ _ (vls_at hxk) (by omega)]
      simp [hw]
    · have hc : (!ileB ((x.2.length : Nat) : Int) ((y + 1 : Nat) : Int)) = false := by rw [ileB_eq]; simp; omega
      obtain ⟨w, hw⟩ := ext_list (l := x.2) (k := 0) hxl
      refine yG ?_
      refine OS.call noGo rfl (fun _ => rfl) ((turn_ct (to := 0) (at' := ctS (nsA l) at' (k + 1)) hv hx hl (by omega) hpl hxk hw).mono ?_)
      rintro v' L2 hL
      rw [hL]
      clear hL
      refine yG ?_
      refine OS.pure rfl (e_sub rfl rfl rfl (in_i64 (by omega) (by omega))) rfl ?_
      refine yG ?_
      obtain ⟨e1, e2⟩ := ct_no hnl hyk (ns_at hxk) hf hlt
      refine ⟨k, by omega, k, _, rfl, by omega, rfl, e2, ?_, rfl⟩
      rw [e1, pick_set _ _ _ _ _ (vls_at hxk) (by omega)]
      simp [hw]
end Go.Proofs.Ytllcbjaajffaeaa
