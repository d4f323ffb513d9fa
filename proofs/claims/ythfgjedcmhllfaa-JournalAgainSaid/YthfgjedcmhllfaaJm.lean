/- Layer 4: JournalAgain. -/
import Derived.Test.YthfgjedcmhllfaaJi
import Derived.Test.YthfgjedcmhllfaaUn
namespace Go.Am
variable {X Y G A B : RL} {x : Nat × ARow}
theorem Sub.cons1 (s : Sub A B) : Sub (x :: A) (x :: B) := by
  obtain ⟨M, hM⟩ := s
  exact ⟨M, hM.cons x⟩
end Go.Am
namespace Go.Proofs.Ythfgjedcmhllfaa
open Go.Am
set_option linter.unusedVariables false
set_option maxRecDepth 20000

def PendG (D : List UInt8) (ps : List (Int × List UInt8)) : Prop := ps ≠ [] ∧ Good 512 ps ∧ blk D 1 = headB ps ∧ ∀ i p, ps[i]? = some p → blk D (2 + i) = p.2
theorem do_any {D : List UInt8} {ps : List (Int × List UInt8)} {n : Nat} (hl : ps.length ≤ 120) (hD : D.length = 512 * 256) (hi : blk D 1 = zeros) (hn : n < 300) :
    ∃ e s', doD ⟨512, D, 0, true, n, false⟩ ps = (e, s') ∧ s'.ok ∧ s'.n = 512 ∧ s'.wr ≤ 1000 ∧ ((e ≠ 20 ∧ s'.dead = false ∧ blk s'.D 1 = zeros) ∨ (e = 20 ∧ s'.dead = true ∧ (blk s'.D 1 = zeros ∨ PendG s'.D ps))) := by
  have ok0 : Dk.ok ⟨512, D, 0, true, n, false⟩ := ok_of hD (by decide) (by decide) (by decide) (by omega)
  by_cases hb : ps = []
  · subst hb
    exact ⟨0, _, doD_empty rfl, ok0, rfl, (show 0 ≤ 1000 by decide), .inl ⟨by decide, rfl, hi⟩⟩
  by_cases hg : Good 512 ps
  case neg => exact ⟨1, _, doD_bad rfl hg hl, ok0, rfl, (show 0 ≤ 1000 by decide), .inl ⟨by decide, rfl, hi⟩⟩
  have hfit := hg.fitDo (by decide) hl
  by_cases hc : 2 * ps.length + 2 ≤ n
  · obtain ⟨a1, a2, _, _⟩ := do_all hg (by decide) hl hD
    refine ⟨0, ⟨512, wrs D (doW ps), 0 + (2 * ps.length + 2), true, n - (2 * ps.length + 2), false⟩, ?_, ok_of a1 (by decide) (by decide) (by omega) (by omega), rfl, (show 0 + (2 * ps.length + 2) ≤ 1000 by omega), .inl ⟨by decide, rfl, a2⟩⟩
    rw [doD_good rfl hg hl hb, runW_all rfl hfit (fun _ => by rw [doW_len]; exact hc), doW_len]
    rfl
  have hcut : doD ⟨512, D, 0, true, n, false⟩ ps = (20, ⟨512, wrs D ((doW ps).take n), 0 + n, true, 0, true⟩) := by
    rw [doD_good rfl hg hl hb, runW_cut rfl hfit rfl (by rw [doW_len]; show n < _; omega)]
  by_cases hk : n ≤ ps.length
  · obtain ⟨a1, a2, _⟩ := lay_some (k := n) hg (by decide) hl hD hk
    exact ⟨20, _, hcut, ok_of a1 (show 512 ≤ 512 by decide) (show 512 ≤ 32768 by decide) (show 0 + n ≤ 1000000 by omega) (by omega), rfl, (show 0 + n ≤ 1000 by omega), .inr ⟨rfl, rfl, .inl (a2.trans hi)⟩⟩
  · obtain ⟨m, rfl⟩ : ∃ m, n = ps.length + 1 + m := ⟨n - (ps.length + 1), by omega⟩
    obtain ⟨a1, a2, a3, _⟩ := do_some (m := m) hg (by decide) hl hD (by omega)
    exact ⟨20, _, hcut, ok_of a1 (show 512 ≤ 512 by decide) (show 512 ≤ 32768 by decide) (show 0 + (ps.length + 1 + m) ≤ 1000000 by omega) (by omega), rfl, (show 0 + (ps.length + 1 + m) ≤ 1000 by omega), .inr ⟨rfl, rfl, .inr ⟨hb, hg, a2, a3⟩⟩⟩
theorem again_free {D : List UInt8} {ps : List (Int × List UInt8)} (hl : ps.length ≤ 120) (hD : D.length = 512 * 256) (hp : PendG D ps) :
    ∃ s', runW ⟨512, D, 0, false, 0, false⟩ (finW ps) = (0, s') ∧ s'.ok ∧ s'.n = 512 ∧ s'.dead = false ∧ blk s'.D 1 = zeros := by
  have hfit := hp.2.1.fitFin (by decide)
  obtain ⟨a1, a2, _, _⟩ := fin_all hp.2.1 (by decide) hl hD
  refine ⟨⟨512, wrs D (finW ps), 0 + (ps.length + 1), false, 0, false⟩, ?_, ok_of a1 (by decide) (by decide) (by omega) (by omega), rfl, rfl, a2⟩
  rw [runW_all rfl hfit (fun h => by cases h), finW_len]
  rfl
theorem gcells_app2 {gs : List Gw} {g : Gw} : gcells (gs ++ [g]) = gcells gs ++ [.int .i64 g.b, g.v] := by
  unfold gcells gp; rw [List.map_append, pc_append]; rfl

set_option maxHeartbeats 2000000 in
theorem jagain_ct {L : RL} {v0 : Value} {m0 : Nat} {zs : List Int} (cut : Int) (h0 : SV 1 L v0 m0 (zs.map fun z => .int .i64 z)) (hm0 : m0 ≤ 1000000000000000000) :
    CS Try.prog 8 [v0, .int .i64 cut] L fun v' _ => v' = .bool true := by
  have hl0 : zs.length = m0 := by have := h0.len; simpa using this
  refine CS.mk (fn := Try.f8) rfl rfl rfl rfl ?_
  repeat refine LS.seq ?_
  refine LS.region rfl ?_
  refine OS.pure rfl (fun _ => rfl) rfl ?_
  refine OS.nil ?_
  by_cases hb0 : 100 < m0
  · have hq : (!ileB (m0 : Int) 100) = true := by rw [ileB_eq]; simp; omega
    repeat refine LS.seq ?_
    refine LS.region rfl ?_
    refine OS.pure rfl (fun _ => rfl) rfl ?_
    refine OS.pure rfl (e_len h0 rfl rfl rfl rfl rfl) rfl ?_
    refine OS.pure rfl (e_is (fun _ => rfl) (congrArg Value.bool hq)) rfl ?_
    refine OS.pure rfl (fun _ => rfl) rfl ?_
    refine OS.skip rfl rfl ?_
    refine OS.skip rfl rfl ?_
    refine OS.pure rfl (fun _ => rfl) rfl ?_
    refine OS.nil ?_
    refine LS.cond rfl (fun hc => ?_) (fun hc => by cases hc)
    repeat refine LS.seq ?_
    refine LS.region rfl ?_
    refine OS.call noGo rfl (fun _ => rfl) ((awake_ct).mono ?_)
    rintro v' L' ⟨rfl, rfl⟩
    refine ⟨_, rfl, ?_⟩
    refine OS.pure rfl (fun _ => rfl) rfl ?_
    refine OS.nil ?_
    refine LS.ret ⟨_, fun _ _ => rfl, ?_⟩
    rfl
  have hq0 : (!ileB (m0 : Int) 100) = false := by rw [ileB_eq]; simp; omega
  repeat refine LS.seq ?_
  refine LS.region rfl ?_
  refine OS.pure rfl (fun _ => rfl) rfl ?_
  refine OS.pure rfl (e_len h0 rfl rfl rfl rfl rfl) rfl ?_
  refine OS.pure rfl (e_is (fun _ => rfl) (congrArg Value.bool hq0)) rfl ?_
  refine OS.pure rfl (fun _ => rfl) rfl ?_
  refine OS.call noGo rfl (fun _ => rfl) ((awake_ct).mono ?_)
  rintro v' L' ⟨rfl, hLL⟩
  have hLL := hLL.symm
  subst hLL
  refine ⟨_, rfl, ?_⟩
  refine OS.pure rfl (fun _ => rfl) rfl ?_
  refine OS.pure rfl (fun _ => rfl) rfl ?_
  refine OS.nil ?_
  refine LS.cond rfl (fun hc => by cases hc) (fun hc => ?_)
  refine LS.skip ?_
  repeat refine LS.seq ?_
  refine LS.region rfl ?_
  refine OS.call noGo rfl (fun _ => rfl) ((fresh_ct).mono ?_)
  rintro v' L' ⟨rd, rb, rj, Y, D, rfl, rfl, hD, hz⟩
  refine ⟨_, rfl, ?_⟩
  refine OS.sub (Sub.cons1 (Sub.cons1 (Sub.cons1 Sub.suffix))) ?_
  refine OS.pure rfl (fun _ => rfl) rfl ?_
  refine OS.pure rfl (fun _ => rfl) rfl ?_
  refine OS.pure rfl (fun _ => rfl) rfl ?_
  refine OS.pure rfl (fun _ => rfl) rfl ?_
  refine OS.pure rfl (fun _ => rfl) rfl ?_
  refine OS.nil ?_
  repeat refine LS.seq ?_
  refine LS.region rfl ?_
  refine OS.pure rfl (fun _ => rfl) rfl ?_
  refine OS.pure rfl (fun _ => rfl) rfl ?_
  refine OS.nil ?_
  refine LS.cond rfl (fun hc => by cases hc) (fun hc => ?_)
  refine LS.skip ?_
  repeat refine LS.seq ?_
  refine LS.region rfl ?_
  refine OS.pure rfl (fun _ => rfl) rfl ?_
  refine OS.nil ?_
  repeat refine LS.seq ?_
  refine LS.region rfl ?_
  refine OS.pure rfl (fun _ => rfl) rfl ?_
  refine OS.nil ?_
  repeat refine LS.seq ?_
  refine LS.block ?_
  refine LS.loopJ [0, 1, 4, 5, 6, 7, 8] (fun q a L' => ∃ (i : Nat) (gs : List Gw) (w : Value) (X Z : RL), q = m0 - i ∧ i ≤ m0 ∧ gs.length = i ∧ LV 65 2 w i (gcells gs) X ∧ Reads Z gs ∧ L' = jn rj rd rb ⟨512, D, 0, false, 0, false⟩ (X ++ (Z ++ L)) ∧
    a = [v0, .int .i64 cut, .chan none, .chan none, .bool false, ptr rd, ptr rj, w, .int .i64 (i : Nat), .chan none, .chan none, .chan none, .chan none, .chan none, .chan none, .chan none, .chan none, .chan none, .chan none, .chan none, .chan none, .chan none, .chan none, .chan none, .chan none, .chan none, .chan none, .chan none, .chan none, .chan none, .chan none, .chan none, .chan none, .chan none, .chan none, .chan none, .chan none, .chan none, .chan none, .chan none, .chan none, .chan none, .chan none, .chan none, .chan none, .chan none, .chan none, .chan none, .chan none, .chan none, .chan none, .chan none, .chan none, .chan none, .chan none, .chan none, .chan none, .chan none, .chan none, .chan none, .chan none, .chan none, .chan none, .chan none, .chan none, .chan none, .chan none, .chan none, .chan none, .chan none, .chan none, .chan none, .chan none, .chan none, .chan none, .chan none, .chan none, .chan none, .chan none, .chan none, .chan none, .chan none, .chan none, .chan none, .chan none, .chan none, .chan none, .chan none, .chan none, .chan none, .chan none, .chan none, .chan none, .chan none, .chan none, .chan none, .chan none, .chan none, .chan none, .chan none, .chan none, .chan none, .chan none, .chan none, .chan none, .chan none, .chan none, .chan none, .chan none, .chan none, .chan none, .chan none, .chan none, .chan none, .chan none, .chan none, .chan none, .chan none, .chan none, .chan none, .chan none, .chan none, .chan none]) (n := m0) rfl ⟨0, [], _, [], [], rfl, by omega, rfl, LV.nil, reads_nil, rfl, rfl⟩ ?_
  rintro q a L' ⟨i, gs, w, X, Z, rfl, hi, hgl, hX, hZ, rfl, rfl⟩
  repeat refine LS.seq ?_
  refine LS.region rfl ?_
  refine OS.pure rfl (fun _ => rfl) rfl ?_
  refine OS.pure rfl (fun _ => rfl) rfl ?_
  refine OS.pure rfl (e_len h0 rfl rfl rfl rfl rfl) rfl ?_
  refine OS.pure rfl (fun _ => rfl) rfl ?_
  refine OS.nil ?_
  repeat refine LS.seq ?_
  refine LS.cond rfl (fun hc => ?_) (fun hc => ?_)
  · have hc : (i : Int) < m0 := lt_of hc
    have hin : i < m0 := by omega
    have hlt := Nat.mod_lt (un zs[i]) (show 390 > 0 by decide)
    refine LS.skip ?_
    repeat refine LS.seq ?_
    refine LS.block ?_
    repeat refine LS.seq ?_
    refine LS.drawn noGo mixed [(0, false), (1, false), (2, false), (3, false), (4, false), (5, false), (6, false), (7, false), (8, false), (9, false), (10, false), (11, true), (12, false), (13, true), (14, true), (15, false)] rfl rfl (by kernel_rfl) ?_
    refine ODS.pure rfl rfl (fun _ => rfl) rfl ?_
    refine ODS.pure rfl rfl (fun _ => rfl) rfl ?_
    refine ODS.pure rfl rfl (fun _ => rfl) rfl ?_
    refine ODS.at1 (j := i) (u := .int .i64 zs[i]) (h0.mono fun p hp => List.mem_cons_of_mem _ (List.mem_cons_of_mem _ (List.mem_cons_of_mem _ (List.mem_append_right _ (List.mem_append_right _ hp))))) (by rw [List.getElem?_map, List.getElem?_eq_getElem (by omega)]; rfl) rfl rfl rfl rfl rfl rfl rfl (fun r0 o0 row0 cs0 m0' c0 g0 => ?_)
    refine ⟨_, rfl, ?_⟩
    refine ODS.read rfl rfl (e_loadm m0' c0 rfl rfl (part_one rfl g0)) rfl ?_
    refine ODS.pure rfl rfl (e_convU rfl rfl rfl rfl) rfl ?_
    refine ODS.pure rfl rfl (e_rem (n := 390) rfl rfl rfl (by decide)) rfl ?_
    refine ODS.pure rfl rfl (e_conv rfl rfl rfl rfl (in_i64 (by omega) (by omega))) rfl ?_
    refine ODS.pure rfl rfl (e_is (e_add (k := .i64) (m := 122) (n := ((un zs[i] % 390 : Nat) : Int)) rfl rfl rfl (in_i64 (by omega) (by omega))) (congrArg (Value.int .i64) (show (122 : Int) + ((un zs[i] % 390 : Nat) : Int) = ((122 + un zs[i] % 390 : Nat) : Int) by omega))) rfl ?_
    refine ODS.pure rfl rfl (fun _ => rfl) rfl ?_
    refine ODS.pure rfl rfl (e_is (e_conv (k' := .u8) rfl rfl rfl rfl (in_u8 (by omega) (by omega))) (congrArg (Value.int .u8) (show ((i : Nat) : Int) = ((UInt8.ofNat i).toNat : Nat) by simp; omega))) rfl ?_
    refine ODS.call rfl rfl (fun _ => rfl) ((full4_ct (UInt8.ofNat i)).mono ?_)
    rintro v' L' ⟨ra, rfl, rfl⟩
    refine ⟨_, rfl, Keep.cons rfl (e_loadm (List.mem_cons_of_mem _ m0') c0 rfl rfl (part_one rfl g0)) Keep.nil, ?_⟩
    refine ODS.pure rfl rfl (fun _ => rfl) rfl ?_
    refine ODS.fresh rfl rfl (e_new (fun _ => rfl) rfl) (fun _ => rfl) (fun rz => Keep.gone rfl Keep.nil) (fun rz => ?_)
    refine ODS.fresh rfl rfl (e_appendLV [(rz, _), (ra, _), (rj, _), (rd, _), (rb, _)] (m := 1) (sz := 2) (bts := 32) hX (SV.row (sz := 2) (n := 1) (cs := [.int .i64 (122 + un zs[i] % 390 : Nat), blkv ra]) (List.mem_cons_self ..) rfl) (by omega) rfl rfl rfl rfl (by omega) (by omega)) (fun _ => rfl) (fun _ => Keep.gone rfl Keep.nil) (fun rn => ?_)
    refine ODS.pure rfl rfl (fun _ => rfl) rfl ?_
    refine ODS.nil ?_
    repeat refine LS.seq ?_
    refine LS.region rfl ?_
    refine OS.sub (Sub.drop 1 rfl) ?_
    refine OS.sub (Sub.pulls [4, 4, 4] rfl) ?_
    refine OS.pure rfl (fun _ => rfl) rfl ?_
    refine OS.pure rfl (e_add rfl rfl rfl (in_i64 (by omega) (by omega))) rfl ?_
    refine OS.pure rfl (fun _ => rfl) rfl ?_
    refine OS.nil ?_
    refine ⟨m0 - (i + 1), by omega, i + 1, gs ++ [⟨((122 + un zs[i] % 390 : Nat) : Int), blkv ra, rep (UInt8.ofNat i)⟩], _, [(rn, .cells 65 (gcells gs ++ [.int .i64 (122 + un zs[i] % 390 : Nat), blkv ra]))], (ra, .cells 5 (byteCells (rep (UInt8.ofNat i)))) :: Z, rfl, by omega, by simp [hgl], ?_, ?_, rfl, rfl⟩
    · rw [gcells_app2]
      exact LV.row (by omega) (by rw [List.length_append, gcells_len, hgl]; simp; omega)
    · intro g hg
      rcases List.mem_append.1 hg with hg | hg
      · obtain ⟨m, hm⟩ := hZ g hg; exact ⟨m, hm.cons⟩
      · rw [List.mem_singleton.1 hg]
        exact ⟨256, SV.row (List.mem_cons_self ..) rep_len⟩
  have hc : (m0 : Int) ≤ i := nlt_of hc
  have him : i = m0 := by omega
  subst him
  have hbl : (bd gs).length ≤ 120 := by rw [bd_len]; omega
  refine LS.exit ?_
  have hnlt := Nat.mod_lt (un cut) (show 300 > 0 by decide)
  repeat refine LS.seq ?_
  refine LS.region rfl ?_
  refine OS.pure rfl (fun _ => rfl) rfl ?_
  refine OS.pure rfl (fun _ => rfl) rfl ?_
  refine OS.pure rfl (e_convU rfl rfl rfl rfl) rfl ?_
  refine OS.pure rfl (e_rem (n := 300) rfl rfl rfl (by decide)) rfl ?_
  generalize un cut % 300 = n at hnlt
  refine OS.pure rfl (e_conv rfl rfl rfl rfl (in_i64 (by omega) (by omega))) rfl ?_
  refine OS.sub (Sub.pulls [2, 2] rfl) ?_
  refine OS.call noGo rfl (fun _ => rfl) ((Cut_ct (s := ⟨512, D, 0, false, 0, false⟩) rfl n (by omega)).mono ?_)
  rintro v' L' ⟨rfl, rfl⟩
  refine ⟨_, rfl, ?_⟩
  refine OS.sub (Sub.pulls [2] rfl) ?_
  refine OS.nil ?_
  have o2 : Dk.ok ⟨512, D, 0, true, n, false⟩ := ok_of hD (by decide) (by decide) (by decide) (by omega)
  obtain ⟨e, s2, hd2, os2, n2, wr2, hcase⟩ := do_any (ps := bd gs) hbl hD (hz 1 (by omega)) hnlt
  refine LS.seq ?_
  refine LS.mid [4, 5] (fun a L2 => ∃ rd rb s G, Dk.ok s ∧ s.n = 512 ∧ s.wr ≤ 1000 ∧ s.dead = false ∧ (blk s.D 1 = zeros ∨ (s = ⟨512, s.D, 0, false, 0, false⟩ ∧ PendG s.D (bd gs))) ∧ L2 = dk rd rb s G ∧ a = [.chan none, .chan none, .chan none, .chan none, .bool false, ptr rd, .chan none, .chan none, .chan none, .chan none, .chan none, .chan none, .chan none, .chan none, .chan none, .chan none, .chan none, .chan none, .chan none, .chan none, .chan none, .chan none, .chan none, .chan none, .chan none, .chan none, .chan none, .chan none, .chan none, .chan none, .chan none, .chan none, .chan none, .chan none, .chan none, .chan none, .chan none, .chan none, .chan none, .chan none, .chan none, .chan none, .chan none, .chan none, .chan none, .chan none, .chan none, .chan none, .chan none, .chan none, .chan none, .chan none, .chan none, .chan none, .chan none, .chan none, .chan none, .chan none, .chan none, .chan none, .chan none, .chan none, .chan none, .chan none, .chan none, .chan none, .chan none, .chan none, .chan none, .chan none, .chan none, .chan none, .chan none, .chan none, .chan none, .chan none, .chan none, .chan none, .chan none, .chan none, .chan none, .chan none, .chan none, .chan none, .chan none, .chan none, .chan none, .chan none, .chan none, .chan none, .chan none, .chan none, .chan none, .chan none, .chan none, .chan none, .chan none, .chan none, .chan none, .chan none, .chan none, .chan none, .chan none, .chan none, .chan none, .chan none, .chan none, .chan none, .chan none, .chan none, .chan none, .chan none, .chan none, .chan none, .chan none, .chan none, .chan none, .chan none, .chan none, .chan none, .chan none, .chan none, .chan none]) ?_ ?_
  · repeat refine LS.seq ?_
    refine LS.region rfl ?_
    refine OS.pure rfl (fun _ => rfl) rfl ?_
    refine OS.pure rfl (fun _ => rfl) rfl ?_
    refine OS.call noGo rfl (fun _ => rfl) ((jDo_ct (gs := gs) o2 (show 0 ≤ 800000 by decide) ((hX.sv (F := Z ++ L)).mono fun p hp => hp) (hZ.mono fun p hp => List.mem_append_right _ (List.mem_append_left _ hp))).mono ?_)
    rintro v' L' ⟨rfl, rfl⟩
    rw [hd2]
    refine ⟨_, rfl, ?_⟩
    refine OS.sub (Sub.drop 0 rfl) ?_
    rcases hcase with ⟨he, hdd, hi2⟩ | ⟨rfl, hdd, hor⟩
    · have hq : ieqB e 20 = false := by rw [ieqB_eq]; simpa using he
      refine OS.pure rfl (e_is (fun _ => rfl) (congrArg Value.bool hq)) rfl ?_
      refine OS.nil ?_
      refine LS.cond rfl (fun hc => by cases hc) (fun hc => ?_)
      obtain ⟨n', D', wr', cut', left', dead'⟩ := s2
      simp only at n2 wr2 hdd hi2
      subst n2
      subst hdd
      repeat refine LS.seq ?_
      refine LS.region rfl ?_
      refine OS.pure rfl (fun _ => rfl) rfl ?_
      refine OS.call noGo rfl (fun _ => rfl) ((Cut_ct rfl 10000 (by decide)).mono ?_)
      rintro v' L' ⟨rfl, rfl⟩
      refine ⟨_, rfl, ?_⟩
      refine OS.nil ?_
      exact ⟨rd, rb, _, _, ok_of (n := 512) (show D'.length = 512 * 256 from os2.1) (by decide) (by decide) (show wr' ≤ 1000000 by omega) (by decide), rfl, wr2, rfl, .inl hi2, rfl, rfl⟩
    · refine OS.pure rfl (fun _ => rfl) rfl ?_
      refine OS.nil ?_
      refine LS.cond rfl (fun hc => ?_) (fun hc => by cases hc)
      obtain ⟨n', D', wr', cut', left', dead'⟩ := s2
      simp only at n2 wr2 hdd hor
      subst n2
      subst hdd
      repeat refine LS.seq ?_
      refine LS.region rfl ?_
      refine OS.pure rfl (fun _ => rfl) rfl ?_
      refine OS.call noGo rfl (fun _ => rfl) ((Reopen_ct os2 rfl).mono ?_)
      rintro v' L' ⟨rd', rb', rfl, rfl⟩
      refine ⟨_, rfl, ?_⟩
      refine OS.pure rfl (fun _ => rfl) rfl ?_
      refine OS.pure rfl (fun _ => rfl) rfl ?_
      refine OS.pure rfl (fun _ => rfl) rfl ?_
      refine OS.pure rfl (fun _ => rfl) rfl ?_
      refine OS.pure rfl (fun _ => rfl) rfl ?_
      refine OS.nil ?_
      repeat refine LS.seq ?_
      refine LS.region rfl ?_
      refine OS.pure rfl (fun _ => rfl) rfl ?_
      refine OS.pure rfl (fun _ => rfl) rfl ?_
      refine OS.nil ?_
      refine LS.cond rfl (fun hc => by cases hc) (fun hc => ?_)
      refine LS.skip ?_
      repeat refine LS.seq ?_
      refine LS.region rfl ?_
      refine OS.pure rfl (fun _ => rfl) rfl ?_
      refine OS.pure rfl (fun _ => rfl) rfl ?_
      refine OS.nil ?_
      refine ⟨rd', rb', _, _, ok_of (n := 512) (show D'.length = 512 * 256 from os2.1) (by decide) (by decide) (by decide) (by decide), rfl, (show 0 ≤ 1000 by decide), rfl, ?_, rfl, rfl⟩
      rcases hor with h | h
      · exact .inl h
      · exact .inr ⟨rfl, h⟩
  clear hcase hd2 os2 n2 wr2
  rintro a L2 ⟨rd, rb, s, G, hok, hn5, hwr5, hd5, hcls, rfl, rfl⟩
  refine LS.seq ?_
  refine LS.mid [4, 5, 11, 12] (fun a L2 => ∃ rj s, Dk.ok s ∧ s.n = 512 ∧ s.dead = false ∧ blk s.D 1 = zeros ∧ L2 = jn rj rd rb s G ∧ a = [.chan none, .chan none, .chan none, .chan none, .bool false, ptr rd, .chan none, .chan none, .chan none, .chan none, .chan none, ptr rj, .int .i64 0, .chan none, .chan none, .chan none, .chan none, .chan none, .chan none, .chan none, .chan none, .chan none, .chan none, .chan none, .chan none, .chan none, .chan none, .chan none, .chan none, .chan none, .chan none, .chan none, .chan none, .chan none, .chan none, .chan none, .chan none, .chan none, .chan none, .chan none, .chan none, .chan none, .chan none, .chan none, .chan none, .chan none, .chan none, .chan none, .chan none, .chan none, .chan none, .chan none, .chan none, .chan none, .chan none, .chan none, .chan none, .chan none, .chan none, .chan none, .chan none, .chan none, .chan none, .chan none, .chan none, .chan none, .chan none, .chan none, .chan none, .chan none, .chan none, .chan none, .chan none, .chan none, .chan none, .chan none, .chan none, .chan none, .chan none, .chan none, .chan none, .chan none, .chan none, .chan none, .chan none, .chan none, .chan none, .chan none, .chan none, .chan none, .chan none, .chan none, .chan none, .chan none, .chan none, .chan none, .chan none, .chan none, .chan none, .chan none, .chan none, .chan none, .chan none, .chan none, .chan none, .chan none, .chan none, .chan none, .chan none, .chan none, .chan none, .chan none, .chan none, .chan none, .chan none, .chan none, .chan none, .chan none, .chan none, .chan none, .chan none, .chan none, .chan none]) ?_ ?_
  · rcases hcls with hi | ⟨hs, hp⟩
    · repeat refine LS.seq ?_
      refine LS.region rfl ?_
      refine OS.pure rfl (fun _ => rfl) rfl ?_
      refine OS.call noGo rfl (fun _ => rfl) ((Open_idle hok hd5 hi).mono ?_)
      rintro v' L' ⟨rj', Y', rfl, rfl⟩
      refine ⟨_, rfl, ?_⟩
      refine OS.sub (Sub.cons1 (Sub.cons1 (Sub.cons1 Sub.suffix))) ?_
      refine OS.pure rfl (fun _ => rfl) rfl ?_
      refine OS.pure rfl (fun _ => rfl) rfl ?_
      refine OS.pure rfl (fun _ => rfl) rfl ?_
      refine OS.pure rfl (fun _ => rfl) rfl ?_
      refine OS.pure rfl (fun _ => rfl) rfl ?_
      refine OS.nil ?_
      exact ⟨rj', s, hok, hn5, hd5, hi, rfl, rfl⟩
    · obtain ⟨s5, hrun, os5, ns5, ds5, is5⟩ := again_free hbl (D := s.D) (by have := hok.1; rw [hn5] at this; exact this) hp
      rw [← hs] at hrun
      repeat refine LS.seq ?_
      refine LS.region rfl ?_
      refine OS.pure rfl (fun _ => rfl) rfl ?_
      refine OS.call noGo rfl (fun _ => rfl) ((Open_pend (ps := bd gs) hok (show s.wr ≤ 800000 by omega) hd5 (by rw [hn5]; exact hp.2.1) hbl hp.1 hp.2.2.1 hp.2.2.2).mono ?_)
      rintro v' L' ⟨Y', hv⟩
      rw [hrun] at hv
      simp only at hv
      rcases hv with ⟨_, rj', rfl, rfl⟩ | ⟨hf0, _⟩
      case inr => exact absurd rfl hf0
      refine ⟨_, rfl, ?_⟩
      refine OS.sub (Sub.cons1 (Sub.cons1 (Sub.cons1 Sub.suffix))) ?_
      refine OS.pure rfl (fun _ => rfl) rfl ?_
      refine OS.pure rfl (fun _ => rfl) rfl ?_
      refine OS.pure rfl (fun _ => rfl) rfl ?_
      refine OS.pure rfl (fun _ => rfl) rfl ?_
      refine OS.pure rfl (fun _ => rfl) rfl ?_
      refine OS.nil ?_
      exact ⟨rj', s5, os5, ns5, ds5, is5, rfl, rfl⟩
  clear hok hn5 hwr5 hd5 hcls
  rintro a L2 ⟨rj, s, hok, hn5, hd5, hi5, rfl, rfl⟩
  repeat refine LS.seq ?_
  refine LS.region rfl ?_
  refine OS.pure rfl (fun _ => rfl) rfl ?_
  refine OS.sub (Sub.pulls [2, 2] rfl) ?_
  refine OS.call noGo rfl (fun _ => rfl) ((Copy_ct hok).mono ?_)
  rintro v' L' ⟨rd2, rb2, rfl, rfl⟩
  refine ⟨_, rfl, ?_⟩
  refine OS.pure rfl (fun _ => rfl) rfl ?_
  refine OS.nil ?_
  repeat refine LS.seq ?_
  refine LS.region rfl ?_
  refine OS.pure rfl (fun _ => rfl) rfl ?_
  refine OS.call noGo rfl (fun _ => rfl) ((Open_idle hok hd5 hi5).mono ?_)
  rintro v' L' ⟨rj2, Y', rfl, rfl⟩
  refine ⟨_, rfl, ?_⟩
  refine OS.sub (Sub.cons1 (Sub.cons1 (Sub.cons1 Sub.suffix))) ?_
  refine OS.sub (Sub.pulls [4, 4, 5] rfl) ?_
  refine OS.pure rfl (fun _ => rfl) rfl ?_
  refine OS.pure rfl (fun _ => rfl) rfl ?_
  refine OS.pure rfl (fun _ => rfl) rfl ?_
  refine OS.pure rfl (fun _ => rfl) rfl ?_
  refine OS.pure rfl (fun _ => rfl) rfl ?_
  refine OS.nil ?_
  repeat refine LS.seq ?_
  refine LS.region rfl ?_
  refine OS.pure rfl (fun _ => rfl) rfl ?_
  refine OS.pure rfl (fun _ => rfl) rfl ?_
  refine OS.pure rfl (fun _ => rfl) rfl ?_
  refine OS.pure rfl (fun _ => rfl) rfl ?_
  refine OS.pure rfl (fun _ => rfl) rfl ?_
  refine OS.pure rfl (fun _ => rfl) rfl ?_
  refine OS.nil ?_
  refine LS.cond rfl (fun hc => by cases hc) (fun hc => ?_)
  refine LS.skip ?_
  repeat refine LS.seq ?_
  refine LS.region rfl ?_
  refine OS.pure rfl (fun _ => rfl) rfl ?_
  refine OS.nil ?_
  repeat refine LS.seq ?_
  refine LS.block ?_
  refine LS.loopJ [4, 11, 14, 16] (fun q a L' => ∃ i : Nat, q = 512 - i ∧ 122 ≤ i ∧ i ≤ 512 ∧ L' = jn rj rd rb s (jn rj2 rd2 rb2 s G) ∧
    a = [.chan none, .chan none, .chan none, .chan none, .bool false, .chan none, .chan none, .chan none, .chan none, .chan none, .chan none, ptr rj, .chan none, .chan none, ptr rj2, .chan none, .int .i64 (i : Nat), .chan none, .chan none, .chan none, .chan none, .chan none, .chan none, .chan none, .chan none, .chan none, .chan none, .chan none, .chan none, .chan none, .chan none, .chan none, .chan none, .chan none, .chan none, .chan none, .chan none, .chan none, .chan none, .chan none, .chan none, .chan none, .chan none, .chan none, .chan none, .chan none, .chan none, .chan none, .chan none, .chan none, .chan none, .chan none, .chan none, .chan none, .chan none, .chan none, .chan none, .chan none, .chan none, .chan none, .chan none, .chan none, .chan none, .chan none, .chan none, .chan none, .chan none, .chan none, .chan none, .chan none, .chan none, .chan none, .chan none, .chan none, .chan none, .chan none, .chan none, .chan none, .chan none, .chan none, .chan none, .chan none, .chan none, .chan none, .chan none, .chan none, .chan none, .chan none, .chan none, .chan none, .chan none, .chan none, .chan none, .chan none, .chan none, .chan none, .chan none, .chan none, .chan none, .chan none, .chan none, .chan none, .chan none, .chan none, .chan none, .chan none, .chan none, .chan none, .chan none, .chan none, .chan none, .chan none, .chan none, .chan none, .chan none, .chan none, .chan none, .chan none, .chan none, .chan none, .chan none, .chan none, .chan none]) (n := 390) rfl ⟨122, rfl, by omega, by omega, rfl, rfl⟩ ?_
  rintro q a L' ⟨i, rfl, hi1, hi2, rfl, rfl⟩
  repeat refine LS.seq ?_
  refine LS.region rfl ?_
  refine OS.pure rfl (fun _ => rfl) rfl ?_
  refine OS.pure rfl (fun _ => rfl) rfl ?_
  refine OS.nil ?_
  repeat refine LS.seq ?_
  refine LS.cond rfl (fun hc => ?_) (fun hc => ?_)
  · have hc : (i : Int) < (512 : Nat) := lt_of hc
    have hpi : plainP s.n (i : Nat) := by rw [hn5]; exact .inr ⟨by omega, by omega⟩
    have hbl2 := blk_len hok.1 (show i < s.n by omega)
    refine LS.skip ?_
    repeat refine LS.seq ?_
    refine LS.block ?_
    repeat refine LS.seq ?_
    refine LS.region rfl ?_
    refine OS.pure rfl (fun _ => rfl) rfl ?_
    refine OS.pure rfl (fun _ => rfl) rfl ?_
    refine OS.call noGo rfl (fun _ => rfl) ((jRead_ct hok hd5 i hpi).mono ?_)
    rintro v' L' ⟨r1, rfl, rfl⟩
    refine ⟨_, rfl, ?_⟩
    refine OS.pure rfl (fun _ => rfl) rfl ?_
    refine OS.pure rfl (fun _ => rfl) rfl ?_
    refine OS.pure rfl (fun _ => rfl) rfl ?_
    refine OS.pure rfl (fun _ => rfl) rfl ?_
    refine OS.pure rfl (fun _ => rfl) rfl ?_
    refine OS.nil ?_
    repeat refine LS.seq ?_
    refine LS.region rfl ?_
    refine OS.pure rfl (fun _ => rfl) rfl ?_
    refine OS.pure rfl (fun _ => rfl) rfl ?_
    refine OS.sub (Sub.pulls [6, 6, 6] rfl) ?_
    refine OS.call noGo rfl (fun _ => rfl) ((jRead_ct hok hd5 i hpi).mono ?_)
    rintro v' L' ⟨r2, rfl, rfl⟩
    refine ⟨_, rfl, ?_⟩
    refine OS.pure rfl (fun _ => rfl) rfl ?_
    refine OS.pure rfl (fun _ => rfl) rfl ?_
    refine OS.pure rfl (fun _ => rfl) rfl ?_
    refine OS.pure rfl (fun _ => rfl) rfl ?_
    refine OS.pure rfl (fun _ => rfl) rfl ?_
    refine OS.nil ?_
    repeat refine LS.seq ?_
    refine LS.region rfl ?_
    refine OS.pure rfl (fun _ => rfl) rfl ?_
    refine OS.pure rfl (fun _ => rfl) rfl ?_
    refine OS.pure rfl (fun _ => rfl) rfl ?_
    refine OS.pure rfl (fun _ => rfl) rfl ?_
    refine OS.pure rfl (fun _ => rfl) rfl ?_
    refine OS.pure rfl (fun _ => rfl) rfl ?_
    refine OS.pure rfl (fun _ => rfl) rfl ?_
    refine OS.pure rfl (fun _ => rfl) rfl ?_
    refine OS.read rfl (e_textSV (n := 256) (bs := blk s.D i) (SV.row (e := 85) (r := r1) (by simp) (by rw [byteCells_len]; exact hbl2)) rfl rfl rfl rfl rfl) rfl ?_
    refine OS.pure rfl (fun _ => rfl) rfl ?_
    refine OS.read rfl (e_textSV (n := 256) (bs := blk s.D i) (SV.row (e := 85) (r := r2) (List.mem_cons_self ..) (by rw [byteCells_len]; exact hbl2)) rfl rfl rfl rfl rfl) rfl ?_
    refine OS.pure rfl (e_is (fun _ => rfl) (congrArg Value.bool (show (!bytesEq (blk s.D i) (blk s.D i)) = false by rw [bytesEq_eq]; simp))) rfl ?_
    refine OS.pure rfl (fun _ => rfl) rfl ?_
    refine OS.nil ?_
    refine LS.cond rfl (fun hc => by cases hc) (fun hc => ?_)
    refine LS.skip ?_
    repeat refine LS.seq ?_
    refine LS.region rfl ?_
    refine OS.sub (Sub.drop 0 rfl) ?_
    refine OS.sub (Sub.drop 3 rfl) ?_
    refine OS.sub (Sub.pulls [5, 5, 5] rfl) ?_
    refine OS.pure rfl (fun _ => rfl) rfl ?_
    refine OS.pure rfl (e_add rfl rfl rfl (in_i64 (by omega) (by omega))) rfl ?_
    refine OS.pure rfl (fun _ => rfl) rfl ?_
    refine OS.nil ?_
    exact ⟨512 - (i + 1), by omega, i + 1, rfl, by omega, by omega, rfl, rfl⟩
  refine LS.exit ?_
  repeat refine LS.seq ?_
  refine LS.region rfl ?_
  refine OS.pure rfl (fun _ => rfl) rfl ?_
  refine OS.nil ?_
  refine LS.ret ⟨_, fun _ _ => rfl, ?_⟩
  rfl
end Go.Proofs.Ythfgjedcmhllfaa
