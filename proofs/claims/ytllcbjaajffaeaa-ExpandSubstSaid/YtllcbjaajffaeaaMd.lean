/- Layer 14: the document's Label. -/
import Derived.Test.YtllcbjaajffaeaaMc
namespace Go.Proofs.Ytllcbjaajffaeaa
open Go.Am Go.Mx
set_option linter.unusedVariables false
set_option maxRecDepth 20000
set_option maxHeartbeats 4000000
attribute [local irreducible] OS LSr ODS CS
theorem marked_ct {L : RL} (s : W) (e : UInt8) (hn : s.length ≤ 20000000000000) : CS Try.prog 39 [str s, .int .u8 (e.toNat : Nat)] L fun v L' => v = str (mk e s) ∧ L' = L := by
  suffices h : CS Try.prog 39 [str s, .int .u8 (e.toNat : Nat)] L fun v L' => v = str (mk e s) ∧ Sub L L' from h.less fun v L' ⟨h1, h2⟩ => ⟨L, h2, h1, rfl⟩
  refine CS.mk (fn := Try.f39) rfl rfl rfl rfl ?_
  refine yG ?_
  refine LS.loopJ [0, 1, 5, 6] (fun q a L' => ∃ (k : Nat) (lv : Value), q = s.length - k ∧ k ≤ s.length ∧ GV 5 1 L lv (mk e (s.take k)).length (byteCells (mk e (s.take k))) L' ∧ a = [str s, .int .u8 (e.toNat : Nat), .chan none, .chan none, .chan none, lv, .int .i64 (k : Nat), .chan none, .chan none, .chan none, .chan none, .chan none, .chan none, .chan none, .chan none, .chan none, .chan none, .chan none, .chan none, .chan none, .chan none, .chan none, .chan none, .chan none, .chan none, .chan none, .chan none, .chan none, .chan none, .chan none, .chan none, .chan none, .chan none, .chan none, .chan none]) (n := s.length) rfl ⟨0, .slice none 0 0, rfl, by omega, .nil, rfl⟩ ?_
  rintro q a L' ⟨k, lv, rfl, hk, hg, rfl⟩
  have hml := mk_len e (s.take k)
  rw [List.length_take, Nat.min_eq_left hk] at hml
  refine yG ?_
  repeat refine LS.seq ?_
  refine LS.cond rfl (fun hc => ?_) (fun hc => ?_)
  · have hc := lt_of hc
    obtain ⟨c, hck⟩ := ext_list (l := s) (k := k) (by omega)
    have h0 : isQ c e = (ieqB (c.toNat : Nat) 92 || ieqB (c.toNat : Nat) (e.toNat : Nat)) := by rw [cmp_u8 (k := 92) c 92 rfl, eq_u8]; rfl
    have hsn := mk_snoc (e := e) hck
    have last : ∀ {X : W} {lv : Value} {L' : RL} (hg : GV 5 1 L lv X.length (byteCells X) L') (hX : X.length ≤ 90000000000000) (r2 : Nat) (e1 : X ++ [c] = mk e (s.take (k + 1))), GV 5 1 L (.slice (some ⟨r2, 0, none⟩) (X.length + 1) openCap) (mk e (s.take (k + 1))).length (byteCells (mk e (s.take (k + 1)))) ((r2, .cells 5 (byteCells X ++ byteCells [c])) :: L) := by
      intro X lv L' hg hX r2 e1
      rw [← e1, byteCells_append, List.length_append]
      exact GV.of (by rw [List.length_append, byteCells_len, byteCells_len]; simp)
    refine LS.skip ?_
    have fin : ∀ (X : W) (lv : Value) (L' : RL), GV 5 1 L lv X.length (byteCells X) L' → X.length ≤ 90000000000000 → X ++ [c] = mk e (s.take (k + 1)) → True := fun _ _ _ _ _ _ => trivial
    clear fin
    rcases tf (ieqB (c.toNat : Nat) 92) with h1 | h1
    · have hq : isQ c e = true := by rw [h0, h1]; rfl
      rw [if_pos hq] at hsn
      refine yG ?_
      refine OS.fresh rfl (e_new (fun _ => rfl) rfl) (fun _ => rfl) (fun rn => ?_)
      refine OS.fresh rfl (e_appendGV [_] (m := 1) (sz := 1) (bts := 1) hg (SV.row (sz := 1) (n := 1) (List.mem_cons_self ..) rfl) (by omega) rfl rfl rfl rfl (by omega) (by omega)) (fun _ => rfl) (fun r2 => ?_)
      refine OS.sub (Sub.drop 1 rfl) ?_
      refine yG ?_
      have hg2 : GV 5 1 L (.slice (some ⟨r2, 0, none⟩) (mk e (s.take k) ++ [92]).length openCap) (mk e (s.take k) ++ [92]).length (byteCells (mk e (s.take k) ++ [92])) ((r2, .cells 5 (byteCells (mk e (s.take k)) ++ [.int .u8 92])) :: L) := by
        rw [byteCells_append]
        exact GV.of (by rw [List.length_append, byteCells_len]; simp [byteCells])
      rw [show (mk e (s.take k)).length + 1 = (mk e (s.take k) ++ [92]).length by simp]
      refine OS.fresh rfl (e_new (fun _ => rfl) rfl) (fun _ => rfl) (fun rn2 => ?_)
      refine OS.fresh rfl (e_appendGV [_] (m := 1) (sz := 1) (bts := 1) hg2 (SV.row (sz := 1) (n := 1) (List.mem_cons_self ..) rfl) (by omega) rfl rfl rfl rfl (by simp; omega) (by simp; omega)) (fun _ => rfl) (fun r3 => ?_)
      refine OS.sub (Sub.drop 1 rfl) ?_
      refine yG ?_
      exact ⟨s.length - (k + 1), by omega, k + 1, _, rfl, by omega, last hg2 (by simp; omega) r3 (by rw [hsn]; simp), rfl⟩
    rcases tf (ieqB (c.toNat : Nat) (e.toNat : Nat)) with h2 | h2
    · have hq : isQ c e = true := by rw [h0, h1, h2]; rfl
      rw [if_pos hq] at hsn
      refine yG ?_
      refine OS.fresh rfl (e_new (fun _ => rfl) rfl) (fun _ => rfl) (fun rn => ?_)
      refine OS.fresh rfl (e_appendGV [_] (m := 1) (sz := 1) (bts := 1) hg (SV.row (sz := 1) (n := 1) (List.mem_cons_self ..) rfl) (by omega) rfl rfl rfl rfl (by omega) (by omega)) (fun _ => rfl) (fun r2 => ?_)
      refine OS.sub (Sub.drop 1 rfl) ?_
      refine yG ?_
      have hg2 : GV 5 1 L (.slice (some ⟨r2, 0, none⟩) (mk e (s.take k) ++ [92]).length openCap) (mk e (s.take k) ++ [92]).length (byteCells (mk e (s.take k) ++ [92])) ((r2, .cells 5 (byteCells (mk e (s.take k)) ++ [.int .u8 92])) :: L) := by
        rw [byteCells_append]
        exact GV.of (by rw [List.length_append, byteCells_len]; simp [byteCells])
      rw [show (mk e (s.take k)).length + 1 = (mk e (s.take k) ++ [92]).length by simp]
      refine OS.fresh rfl (e_new (fun _ => rfl) rfl) (fun _ => rfl) (fun rn2 => ?_)
      refine OS.fresh rfl (e_appendGV [_] (m := 1) (sz := 1) (bts := 1) hg2 (SV.row (sz := 1) (n := 1) (List.mem_cons_self ..) rfl) (by omega) rfl rfl rfl rfl (by simp; omega) (by simp; omega)) (fun _ => rfl) (fun r3 => ?_)
      refine OS.sub (Sub.drop 1 rfl) ?_
      refine yG ?_
      exact ⟨s.length - (k + 1), by omega, k + 1, _, rfl, by omega, last hg2 (by simp; omega) r3 (by rw [hsn]; simp), rfl⟩
    · have hq : ¬ isQ c e = true := by rw [h0, h1, h2]; simp
      rw [if_neg hq] at hsn
      refine yG ?_
      refine OS.fresh rfl (e_new (fun _ => rfl) rfl) (fun _ => rfl) (fun rn2 => ?_)
      refine OS.fresh rfl (e_appendGV [_] (m := 1) (sz := 1) (bts := 1) hg (SV.row (sz := 1) (n := 1) (List.mem_cons_self ..) rfl) (by omega) rfl rfl rfl rfl (by omega) (by omega)) (fun _ => rfl) (fun r3 => ?_)
      refine OS.sub (Sub.drop 1 rfl) ?_
      refine yG ?_
      exact ⟨s.length - (k + 1), by omega, k + 1, _, rfl, by omega, last hg (by omega) r3 hsn.symm, rfl⟩
  · have hc := nlt_of hc
    obtain rfl : k = s.length := by omega
    rw [List.take_length] at hg hml
    refine LS.exit ?_
    refine yG ?_
    refine OS.read rfl (e_textSV hg.sv rfl rfl rfl rfl rfl) rfl ?_
    refine yG ?_
    exact ⟨rfl, gv_drop hg⟩
theorem refLabel_ct {L : RL} {v : Value} {n : W} {row : List W} (hv : SV 1 L v row.length (strs row)) (hr : row.length ≤ 1000000) (hl : 2 * n.length + vlen row ≤ 40000000000000) : CS Try.prog 24 [str n, v] L fun u L' => u = str (label n row) ∧ L' = L := by
  refine CS.mk (fn := Try.f24) rfl rfl rfl rfl ?_
  refine yG ?_
  refine OS.call noGo rfl (fun _ => rfl) ((marked_ct n 58 (by omega)).mono ?_)
  rintro v' L2 ⟨rfl, hL⟩
  rw [hL]
  clear hL
  refine yG ?_
  refine LS.loopJ [0, 1, 5, 6] (fun q a L' => ∃ (k : Nat) (x : W), q = row.length - k ∧ k ≤ row.length ∧ x = mk 58 n ++ vals 58 (row.take k) ∧ L' = L ∧ a = [str n, v, .chan none, .chan none, .chan none, str x, .int .i64 (k : Nat), .chan none, .chan none, .chan none, .chan none, .chan none, .chan none, .chan none, .chan none, .chan none, .chan none, .chan none, .chan none, .chan none, .chan none, .chan none, .chan none, .chan none, .chan none, .chan none, .chan none, .chan none, .chan none]) (n := row.length) rfl ⟨0, _, rfl, by omega, by simp [vals], rfl, rfl⟩ ?_
  rintro q a L' ⟨k, x, rfl, hk, hx, hL, rfl⟩
  rw [hL]
  clear hL
  have h1 := mk_len 58 n
  have h2 := vals_len 58 (row.take k)
  have h3 := vlen_take row k
  refine yG ?_
  repeat refine LS.seq ?_
  refine LS.cond rfl (fun hc => ?_) (fun hc => ?_)
  · have hc := lt_of hc
    obtain ⟨w, hw⟩ := ext_list (l := row) (k := k) (by omega)
    have hvs := vals_snoc (e := 58) hw
    have h6 := vlen_mem (List.mem_of_getElem? hw)
    have h7 := mk_len 44 w
    refine LS.skip ?_
    by_cases hk0 : k = 0
    · have hb : ieqB ((k : Nat) : Int) 0 = true := by rw [hk0]; rfl
      rw [if_pos hk0] at hvs
      refine yG ?_
      refine OS.pure rfl (e_cat (xs := x) (ys := [58]) rfl rfl rfl (by rw [hx]; simp; omega)) rfl ?_
      refine yG ?_
      refine OS.at1 (j := k) (hv) (strs_at hw) rfl rfl rfl rfl rfl rfl (fun ra0 oa0 rowa0 csa0 ma0 ca0 ga0 => ⟨_, rfl, ?_⟩)
      refine OS.read rfl (e_loadm ma0 ca0 rfl rfl (part_one rfl ga0)) rfl ?_
      refine yG ?_
      refine OS.call noGo rfl (fun _ => rfl) ((marked_ct w 44 (by omega)).mono ?_)
      rintro v' L2 ⟨rfl, hL⟩
      rw [hL]
      clear hL
      refine ⟨_, rfl, ?_⟩
      refine OS.pure rfl (e_cat (xs := x ++ [58]) (ys := mk 44 w) rfl rfl rfl (by rw [hx]; simp; omega)) rfl ?_
      refine yG ?_
      exact ⟨row.length - (k + 1), by omega, k + 1, _, rfl, by omega, by rw [hvs, hx]; simp, rfl, rfl⟩
    · have hb : ieqB ((k : Nat) : Int) 0 = false := by rw [ieqB_eq]; simp; omega
      rw [if_neg hk0] at hvs
      refine yG ?_
      refine OS.pure rfl (e_cat (xs := x) (ys := [44]) rfl rfl rfl (by rw [hx]; simp; omega)) rfl ?_
      refine yG ?_
      refine OS.at1 (j := k) (hv) (strs_at hw) rfl rfl rfl rfl rfl rfl (fun ra0 oa0 rowa0 csa0 ma0 ca0 ga0 => ⟨_, rfl, ?_⟩)
      refine OS.read rfl (e_loadm ma0 ca0 rfl rfl (part_one rfl ga0)) rfl ?_
      refine yG ?_
      refine OS.call noGo rfl (fun _ => rfl) ((marked_ct w 44 (by omega)).mono ?_)
      rintro v' L2 ⟨rfl, hL⟩
      rw [hL]
      clear hL
      refine ⟨_, rfl, ?_⟩
      refine OS.pure rfl (e_cat (xs := x ++ [44]) (ys := mk 44 w) rfl rfl rfl (by rw [hx]; simp; omega)) rfl ?_
      refine yG ?_
      exact ⟨row.length - (k + 1), by omega, k + 1, _, rfl, by omega, by rw [hvs, hx]; simp, rfl, rfl⟩
  · have hc := nlt_of hc
    obtain rfl : k = row.length := by omega
    rw [List.take_length] at hx
    subst hx
    refine LS.exit ?_
    refine yG ?_
    exact ⟨rfl, rfl⟩
end Go.Proofs.Ytllcbjaajffaeaa
