/- Layer 4: JournalPlays: are the blocks as they must be? -/
import Derived.Test.YthfgjedcmhllfaaJp
import Derived.Test.YthfgjedcmhllfaaJh
namespace Go.Proofs.Ythfgjedcmhllfaa
open Go.Am
set_option linter.unusedVariables false
set_option maxRecDepth 20000

/-- The blocks hold what the document says, as far as they are named. -/
def Agree (D : List UInt8) (n : Nat) (f : F04) (zs : List Int) : Prop := ∀ z ∈ zs, ∀ j : Nat, z = (j : Int) → plainP n z → blk D j = (f z).getD z256

set_option maxHeartbeats 1000000 in
theorem reads_ct {F : RL} {rj rd rb rx : Nat} {s : Dk} {f : F04} {vn : Value} {nn : Nat} {zs : List Int} (hs : s.ok) (hd : s.dead = false) (hx : BlkAt F rx s.n f) (hv : SV 1 F vn nn (zs.map fun z => .int .i64 z)) (hnn : nn ≤ 1000000) :
    CS Try.prog 39 [ptr rj, ptr rx, vn] (jn rj rd rb s F) fun v L' => ∃ b, v = .bool b ∧ (b = true ↔ Agree s.D s.n f zs) ∧ L' = jn rj rd rb s F := by
  have hl0 : zs.length = nn := by have := hv.len; simpa using this
  have h512 := hs.2.1
  have hx3 : BlkAt (jn rj rd rb s F) rx s.n f := hx.mono fun p hp => List.mem_cons_of_mem _ (List.mem_cons_of_mem _ (List.mem_cons_of_mem _ hp))
  refine CS.mk (fn := Try.f39) rfl rfl rfl rfl ?_
  repeat refine LS.seq ?_
  refine LS.region rfl ?_
  refine OS.pure rfl (fun _ => rfl) rfl ?_
  refine OS.nil ?_
  repeat refine LS.seq ?_
  refine LS.region rfl ?_
  refine OS.pure rfl (fun _ => rfl) rfl ?_
  refine OS.nil ?_
  repeat refine LS.seq ?_
  refine LS.block ?_
  refine LS.loopJ [0, 1, 2, 6, 7] (fun q a L' => ∃ i, q = nn - i ∧ i ≤ nn ∧ Agree s.D s.n f (zs.take i) ∧ L' = jn rj rd rb s F ∧
    a = [ptr rj, ptr rx, vn, .chan none, .chan none, .chan none, .bool false, .int .i64 (i : Nat), .chan none, .chan none, .chan none, .chan none, .chan none, .chan none, .chan none, .chan none, .chan none, .chan none, .chan none, .chan none, .chan none, .chan none, .chan none, .chan none, .chan none, .chan none, .chan none, .chan none, .chan none, .chan none, .chan none, .chan none, .chan none, .chan none, .chan none, .chan none, .chan none, .chan none, .chan none, .chan none, .chan none, .chan none, .chan none, .chan none, .chan none, .chan none, .chan none, .chan none, .chan none, .chan none, .chan none, .chan none, .chan none, .chan none, .chan none, .chan none, .chan none, .chan none, .chan none, .chan none, .chan none, .chan none]) (n := nn) rfl ⟨0, rfl, by omega, (fun z hz => by cases hz), rfl, rfl⟩ ?_
  rintro q a L' ⟨i, rfl, hi, hag, rfl, rfl⟩
  repeat refine LS.seq ?_
  refine LS.region rfl ?_
  refine OS.pure rfl (fun _ => rfl) rfl ?_
  refine OS.pure rfl (fun _ => rfl) rfl ?_
  refine OS.pure rfl (e_len hv rfl rfl rfl rfl rfl) rfl ?_
  refine OS.pure rfl (fun _ => rfl) rfl ?_
  refine OS.nil ?_
  repeat refine LS.seq ?_
  refine LS.cond rfl (fun hc => ?_) (fun hc => ?_)
  · have hc : (i : Int) < nn := lt_of hc
    have hin : i < nn := by omega
    have hz : zs[i]? = some zs[i] := List.getElem?_eq_getElem (by omega)
    have hzc : (zs.map fun z => Value.int .i64 z)[i]? = some (.int .i64 zs[i]) := by rw [List.getElem?_map, hz]; rfl
    have htk : zs.take (i + 1) = zs.take i ++ [zs[i]] := by rw [List.take_add_one, hz]; rfl
    have hmz : zs[i] ∈ zs := List.getElem_mem (by omega)
    generalize zs[i] = z at hz hzc htk hmz
    refine LS.skip ?_
    repeat refine LS.seq ?_
    refine LS.block ?_
    by_cases hpl : plainP s.n z
    case neg =>
      repeat refine LS.seq ?_
      refine LS.region rfl ?_
      refine OS.pure rfl (fun _ => rfl) rfl ?_
      refine OS.pure rfl (fun _ => rfl) rfl ?_
      refine OS.pure rfl (fun _ => rfl) rfl ?_
      refine OS.at1 (j := i) (u := .int .i64 z) hv.cons.cons.cons hzc rfl rfl rfl rfl rfl rfl (fun r0 o0 row0 cs0 m0 c0 g0 => ?_)
      refine ⟨_, rfl, ?_⟩
      refine OS.read rfl (e_loadm m0 c0 rfl rfl (part_one rfl g0)) rfl ?_
      refine OS.call noGo rfl (fun _ => rfl) ((jRead_out hd z hpl).mono ?_)
      rintro v L' ⟨rfl, rfl⟩
      refine ⟨_, rfl, ?_⟩
      refine OS.pure rfl (fun _ => rfl) rfl ?_
      refine OS.pure rfl (fun _ => rfl) rfl ?_
      refine OS.pure rfl (fun _ => rfl) rfl ?_
      refine OS.pure rfl (fun _ => rfl) rfl ?_
      refine OS.pure rfl (fun _ => rfl) rfl ?_
      refine OS.nil ?_
      repeat refine LS.seq ?_
      refine LS.region rfl ?_
      refine OS.pure rfl (fun _ => rfl) rfl ?_
      refine OS.pure rfl (fun _ => rfl) rfl ?_
      refine OS.pure rfl (fun _ => rfl) rfl ?_
      refine OS.at1 (j := i) (u := .int .i64 z) hv.cons.cons.cons hzc rfl rfl rfl rfl rfl rfl (fun r1 o1 row1 cs1 m1 c1 g1 => ?_)
      refine ⟨_, rfl, ?_⟩
      refine OS.read rfl (e_loadm m1 c1 rfl rfl (part_one rfl g1)) rfl ?_
      refine OS.call noGo rfl (fun _ => rfl) ((bPlain_ct hx3 h512 z).mono ?_)
      rintro v L' ⟨rfl, rfl⟩
      rw [decide_eq_false hpl]
      refine ⟨_, rfl, ?_⟩
      refine OS.pure rfl (fun _ => rfl) rfl ?_
      refine OS.nil ?_
      refine LS.cond rfl (fun hc => ?_) (fun hc => by cases hc)
      repeat refine LS.seq ?_
      refine LS.region rfl ?_
      refine OS.pure rfl (fun _ => rfl) rfl ?_
      refine OS.pure rfl (fun _ => rfl) rfl ?_
      refine OS.pure rfl (fun _ => rfl) rfl ?_
      refine OS.pure rfl (fun _ => rfl) rfl ?_
      refine OS.pure rfl (fun _ => rfl) rfl ?_
      refine OS.pure rfl (fun _ => rfl) rfl ?_
      refine OS.pure rfl (fun _ => rfl) rfl ?_
      refine OS.nil ?_
      refine LS.cond rfl (fun hc => by cases hc) (fun hc => ?_)
      refine LS.skip ?_
      refine LS.exit ?_
      repeat refine LS.seq ?_
      refine LS.region rfl ?_
      refine OS.pure rfl (fun _ => rfl) rfl ?_
      refine OS.pure rfl (e_add rfl rfl rfl (in_i64 (by omega) (by omega))) rfl ?_
      refine OS.pure rfl (fun _ => rfl) rfl ?_
      refine OS.nil ?_
      refine ⟨nn - (i + 1), by omega, i + 1, rfl, by omega, ?_, rfl, rfl⟩
      rw [htk]
      intro x hx j hj hp
      rcases List.mem_append.1 hx with hx | hx
      · exact hag x hx j hj hp
      · rw [List.mem_singleton.1 hx] at hp; exact absurd hp hpl
    obtain ⟨j, rfl⟩ := Int.eq_ofNat_of_zero_le (show 0 ≤ z by unfold plainP at hpl; omega)
    have hjn : j < s.n := by unfold plainP at hpl; omega
    have hbl := blk_len hs.1 hjn
    repeat refine LS.seq ?_
    refine LS.region rfl ?_
    refine OS.pure rfl (fun _ => rfl) rfl ?_
    refine OS.pure rfl (fun _ => rfl) rfl ?_
    refine OS.pure rfl (fun _ => rfl) rfl ?_
    refine OS.at1 (j := i) (u := .int .i64 (j : Nat)) hv.cons.cons.cons hzc rfl rfl rfl rfl rfl rfl (fun r0 o0 row0 cs0 m0 c0 g0 => ?_)
    refine ⟨_, rfl, ?_⟩
    refine OS.read rfl (e_loadm m0 c0 rfl rfl (part_one rfl g0)) rfl ?_
    refine OS.call noGo rfl (fun _ => rfl) ((jRead_ct hs hd j hpl).mono ?_)
    rintro v L' ⟨r, rfl, rfl⟩
    refine ⟨_, rfl, ?_⟩
    refine OS.pure rfl (fun _ => rfl) rfl ?_
    refine OS.pure rfl (fun _ => rfl) rfl ?_
    refine OS.pure rfl (fun _ => rfl) rfl ?_
    refine OS.pure rfl (fun _ => rfl) rfl ?_
    refine OS.pure rfl (fun _ => rfl) rfl ?_
    refine OS.nil ?_
    have hx4 : ∀ {p : Nat × ARow}, BlkAt (p :: jn rj rd rb s F) rx s.n f := fun {p} => hx3.mono fun q hq => List.mem_cons_of_mem _ hq
    repeat refine LS.seq ?_
    refine LS.region rfl ?_
    refine OS.pure rfl (fun _ => rfl) rfl ?_
    refine OS.pure rfl (fun _ => rfl) rfl ?_
    refine OS.pure rfl (fun _ => rfl) rfl ?_
    refine OS.at1 (j := i) (u := .int .i64 (j : Nat)) hv.cons.cons.cons.cons hzc rfl rfl rfl rfl rfl rfl (fun r1 o1 row1 cs1 m1 c1 g1 => ?_)
    refine ⟨_, rfl, ?_⟩
    refine OS.read rfl (e_loadm m1 c1 rfl rfl (part_one rfl g1)) rfl ?_
    refine OS.call noGo rfl (fun _ => rfl) ((bPlain_ct hx4 h512 (j : Nat)).mono ?_)
    rintro v L' ⟨rfl, rfl⟩
    rw [decide_eq_true hpl]
    refine ⟨_, rfl, ?_⟩
    refine OS.pure rfl (fun _ => rfl) rfl ?_
    refine OS.nil ?_
    refine LS.cond rfl (fun hc => by cases hc) (fun hc => ?_)
    refine LS.skip ?_
    repeat refine LS.seq ?_
    refine LS.drawn noGo mixed [(0, false), (1, false), (2, false), (3, false), (4, false), (5, false), (6, false), (7, false), (8, false), (9, false), (10, true), (11, false), (12, false)] rfl rfl (by kernel_rfl) ?_
    refine ODS.pure rfl rfl (fun _ => rfl) rfl ?_
    refine ODS.pure rfl rfl (fun _ => rfl) rfl ?_
    refine ODS.pure rfl rfl (fun _ => rfl) rfl ?_
    refine ODS.pure rfl rfl (fun _ => rfl) rfl ?_
    refine ODS.read rfl rfl (e_textSV (n := 256) (bs := blk s.D j) (SV.row (e := 85) (r := r) (List.mem_cons_self ..) (by rw [byteCells_len]; exact hbl)) rfl rfl rfl rfl rfl) rfl ?_
    refine ODS.pure rfl rfl (fun _ => rfl) rfl ?_
    refine ODS.pure rfl rfl (fun _ => rfl) rfl ?_
    refine ODS.pure rfl rfl (fun _ => rfl) rfl ?_
    refine ODS.at1 (j := i) (u := .int .i64 (j : Nat)) hv.cons.cons.cons.cons hzc rfl rfl rfl rfl rfl rfl rfl (fun r2 o2 row2 cs2 m2 c2 g2 => ?_)
    refine ⟨_, rfl, ?_⟩
    refine ODS.read rfl rfl (e_loadm m2 c2 rfl rfl (part_one rfl g2)) rfl ?_
    refine ODS.call rfl rfl (fun _ => rfl) ((bAt_ct hx4 (j : Nat)).mono ?_)
    rintro v L' ⟨rfl, rfl⟩
    refine ⟨_, rfl, Keep.gone rfl (Keep.cons rfl (e_textSV (n := 256) (bs := blk s.D j) (SV.row (e := 85) (r := r) (List.mem_cons_self ..) (by rw [byteCells_len]; exact hbl)) rfl rfl rfl rfl rfl) Keep.nil), ?_⟩
    by_cases heq : blk s.D j = (f (j : Nat)).getD z256
    case neg =>
      refine ODS.pure rfl rfl (e_is (fun _ => rfl) (congrArg Value.bool (show (!bytesEq (blk s.D j) ((f (j : Nat)).getD z256)) = true by rw [bytes_dec, decide_eq_false heq]; rfl))) rfl ?_
      refine ODS.pure rfl rfl (fun _ => rfl) rfl ?_
      refine ODS.nil ?_
      refine LS.cond rfl (fun hc => ?_) (fun hc => by cases hc)
      repeat refine LS.seq ?_
      refine LS.region rfl ?_
      refine OS.sub (Sub.drop 0 rfl) ?_
      refine OS.pure rfl (fun _ => rfl) rfl ?_
      refine OS.nil ?_
      refine LS.ret ⟨_, fun _ _ => rfl, ?_⟩
      exact ⟨false, rfl, ⟨fun h => (by cases h), fun h => absurd (h _ hmz j rfl hpl) heq⟩, rfl⟩
    refine ODS.pure rfl rfl (e_is (fun _ => rfl) (congrArg Value.bool (show (!bytesEq (blk s.D j) ((f (j : Nat)).getD z256)) = false by rw [bytes_dec, decide_eq_true heq]; rfl))) rfl ?_
    refine ODS.pure rfl rfl (fun _ => rfl) rfl ?_
    refine ODS.nil ?_
    refine LS.cond rfl (fun hc => by cases hc) (fun hc => ?_)
    refine LS.skip ?_
    repeat refine LS.seq ?_
    refine LS.region rfl ?_
    refine OS.pure rfl (fun _ => rfl) rfl ?_
    refine OS.nil ?_
    repeat refine LS.seq ?_
    refine LS.block ?_
    refine LS.loopJ [0, 1, 2, 6, 7, 8, 10] (fun q a L' => ∃ (p : Nat) (cs : List Value), q = 256 - p ∧ p ≤ 256 ∧ cs.length = 256 ∧ L' = (r, .cells 85 cs) :: jn rj rd rb s F ∧
      a = [ptr rj, ptr rx, vn, .chan none, .chan none, .chan none, .bool false, .int .i64 (i : Nat), .slice (some ⟨r, 0, none⟩) 256 256, .chan none, .int .i64 (p : Nat), .chan none, .chan none, .chan none, .chan none, .chan none, .chan none, .chan none, .chan none, .chan none, .chan none, .chan none, .chan none, .chan none, .chan none, .chan none, .chan none, .chan none, .chan none, .chan none, .chan none, .chan none, .chan none, .chan none, .chan none, .chan none, .chan none, .chan none, .chan none, .chan none, .chan none, .chan none, .chan none, .chan none, .chan none, .chan none, .chan none, .chan none, .chan none, .chan none, .chan none, .chan none, .chan none, .chan none, .chan none, .chan none, .chan none, .chan none, .chan none, .chan none, .chan none, .chan none]) (n := 256) rfl ⟨0, _, rfl, by omega, by rw [byteCells_len]; exact hbl, rfl, rfl⟩ ?_
    rintro q a L' ⟨p, cs, rfl, hp, hcs, rfl, rfl⟩
    repeat refine LS.seq ?_
    refine LS.region rfl ?_
    refine OS.pure rfl (fun _ => rfl) rfl ?_
    refine OS.pure rfl (fun _ => rfl) rfl ?_
    refine OS.pure rfl (fun _ => rfl) rfl ?_
    refine OS.pure rfl (fun _ => rfl) rfl ?_
    refine OS.nil ?_
    repeat refine LS.seq ?_
    refine LS.cond rfl (fun hc2 => ?_) (fun hc2 => ?_)
    · have hc2 : (p : Int) < (256 : Nat) := lt_of hc2
      have hp2 : p < 256 := by omega
      refine LS.skip ?_
      repeat refine LS.seq ?_
      refine LS.block ?_
      repeat refine LS.seq ?_
      refine LS.region rfl ?_
      refine OS.pure rfl (fun _ => rfl) rfl ?_
      refine OS.pure rfl (fun _ => rfl) rfl ?_
      refine OS.pure rfl (e_index (j := p) (sz := 1) rfl rfl rfl rfl rfl hp2) rfl ?_
      refine OS.write rfl (e_store 0 (n := 1) (cs' := cs.set p (.int .u8 238)) rfl rfl rfl rfl rfl rfl (by rw [show 0 + p * 1 = p by omega]; exact lay_one (by omega)) rfl) rfl ?_
      refine OS.nil ?_
      repeat refine LS.seq ?_
      refine LS.region rfl ?_
      refine OS.pure rfl (fun _ => rfl) rfl ?_
      refine OS.pure rfl (e_add rfl rfl rfl (in_i64 (by omega) (by omega))) rfl ?_
      refine OS.pure rfl (fun _ => rfl) rfl ?_
      refine OS.nil ?_
      exact ⟨256 - (p + 1), by omega, p + 1, _, rfl, by omega, by rw [List.length_set]; exact hcs, rfl, rfl⟩
    refine LS.exit ?_
    repeat refine LS.seq ?_
    refine LS.region rfl ?_
    refine OS.sub (Sub.drop 0 rfl) ?_
    refine OS.pure rfl (fun _ => rfl) rfl ?_
    refine OS.pure rfl (e_add rfl rfl rfl (in_i64 (by omega) (by omega))) rfl ?_
    refine OS.pure rfl (fun _ => rfl) rfl ?_
    refine OS.nil ?_
    refine ⟨nn - (i + 1), by omega, i + 1, rfl, by omega, ?_, rfl, rfl⟩
    rw [htk]
    intro x hx j' hj hp
    rcases List.mem_append.1 hx with hx | hx
    · exact hag x hx j' hj hp
    · have hx := List.mem_singleton.1 hx
      subst hx
      have : j' = j := by omega
      subst this
      exact heq
  have hc : (nn : Int) ≤ i := nlt_of hc
  have hin : i = zs.length := by omega
  subst hin
  rw [List.take_length] at hag
  refine LS.exit ?_
  repeat refine LS.seq ?_
  refine LS.region rfl ?_
  refine OS.pure rfl (fun _ => rfl) rfl ?_
  refine OS.nil ?_
  refine LS.ret ⟨_, fun _ _ => rfl, ?_⟩
  exact ⟨true, rfl, ⟨fun _ => hag, fun _ => rfl⟩, rfl⟩
end Go.Proofs.Ythfgjedcmhllfaa
