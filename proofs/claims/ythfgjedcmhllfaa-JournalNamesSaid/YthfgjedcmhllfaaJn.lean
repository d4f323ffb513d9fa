/- Layer 4: JournalNames. -/
import Derived.Test.YthfgjedcmhllfaaJi
namespace Go.Proofs.Ythfgjedcmhllfaa
open Go.Am
set_option linter.unusedVariables false
set_option maxRecDepth 20000

def gl (i : Nat) : List (Int × List UInt8) := (List.range i).map fun k => (((130 + k : Nat) : Int), rep (UInt8.ofNat k))
theorem gl_len {i : Nat} : (gl i).length = i := by simp [gl]
theorem gl_succ {i : Nat} : gl (i + 1) = gl i ++ [(((130 + i : Nat) : Int), rep (UInt8.ofNat i))] := by simp [gl, List.range_succ]
theorem gl_good {i : Nat} (h : i ≤ 120) : Good 512 (gl i) := by
  refine ⟨fun p hp => ?_, ?_⟩
  · obtain ⟨k, hk, rfl⟩ := List.mem_map.1 hp
    have := List.mem_range.1 hk
    refine ⟨.inr ⟨by simp; omega, by simp; omega⟩, List.length_replicate⟩
  · unfold gl
    rw [List.map_map]
    unfold List.Nodup
    rw [List.pairwise_map]
    refine List.Pairwise.imp (fun {a b} hab => ?_) (List.nodup_range (n := i))
    intro e
    apply hab
    have e : ((130 + a : Nat) : Int) = ((130 + b : Nat) : Int) := e
    omega
theorem gcells_app {gs : List Gw} {g : Gw} : gcells (gs ++ [g]) = gcells gs ++ [.int .i64 g.b, g.v] := by
  unfold gcells gp; rw [List.map_append, pc_append]; rfl
theorem gcells_cut {gs : List Gw} {k : Nat} (h : k ≤ gs.length) : Go.Am.cut (gcells gs) 0 (k * 2) = some (gcells (gs.take k)) := by
  have hl := gcells_len gs
  rw [cut_of (by omega), List.drop_zero]
  congr 1
  have e : gcells gs = gcells (gs.take k) ++ gcells (gs.drop k) := by
    unfold gcells gp; rw [← pc_append, ← List.map_append, List.take_append_drop]
  rw [e]
  exact List.take_left' (by rw [gcells_len, List.length_take]; omega)

set_option maxHeartbeats 1000000 in
theorem jnames_ct {L : RL} : CS Try.prog 6 [] L fun v _ => v = .bool true := by
  refine CS.mk (fn := Try.f6) rfl rfl rfl rfl ?_
  repeat refine LS.seq ?_
  refine LS.region rfl ?_
  refine OS.pure rfl (fun _ => rfl) rfl ?_
  refine OS.nil ?_
  repeat refine LS.seq ?_
  refine LS.region rfl ?_
  refine OS.pure rfl (fun _ => rfl) rfl ?_
  refine OS.nil ?_
  repeat refine LS.seq ?_
  refine LS.region rfl ?_
  refine OS.call noGo rfl (fun _ => rfl) ((Open_refused (e := 2) (by decide) (Read_nil _)).mono ?_)
  rintro v L' ⟨rfl, hLL⟩
  have hLL := hLL.symm
  subst hLL
  refine ⟨_, rfl, ?_⟩
  refine OS.pure rfl (fun _ => rfl) rfl ?_
  refine OS.pure rfl (fun _ => rfl) rfl ?_
  refine OS.pure rfl (fun _ => rfl) rfl ?_
  refine OS.pure rfl (fun _ => rfl) rfl ?_
  refine OS.pure rfl (fun _ => rfl) rfl ?_
  refine OS.nil ?_
  repeat refine LS.seq ?_
  refine LS.region rfl ?_
  refine OS.pure rfl (fun _ => rfl) rfl ?_
  refine OS.call noGo rfl (fun _ => rfl) ((jRead_nil _).mono ?_)
  rintro v L' ⟨rfl, hLL⟩
  have hLL := hLL.symm
  subst hLL
  refine ⟨_, rfl, ?_⟩
  refine OS.pure rfl (fun _ => rfl) rfl ?_
  refine OS.pure rfl (fun _ => rfl) rfl ?_
  refine OS.pure rfl (fun _ => rfl) rfl ?_
  refine OS.pure rfl (fun _ => rfl) rfl ?_
  refine OS.pure rfl (fun _ => rfl) rfl ?_
  refine OS.nil ?_
  repeat refine LS.seq ?_
  refine LS.region rfl ?_
  refine OS.call noGo rfl (fun _ => rfl) ((fresh_ct).mono ?_)
  rintro v L' ⟨rd, rb, rj, Y, D, rfl, rfl, hD, hz⟩
  refine ⟨_, rfl, ?_⟩
  refine OS.pure rfl (fun _ => rfl) rfl ?_
  refine OS.pure rfl (fun _ => rfl) rfl ?_
  refine OS.pure rfl (fun _ => rfl) rfl ?_
  refine OS.pure rfl (fun _ => rfl) rfl ?_
  refine OS.pure rfl (fun _ => rfl) rfl ?_
  refine OS.nil ?_
  have o0 : Dk.ok ⟨512, D, 0, false, 0, false⟩ := ok_of hD (by decide) (by decide) (by decide) (by decide)
  repeat refine LS.seq ?_
  refine LS.region rfl ?_
  refine OS.pure rfl (fun _ => rfl) rfl ?_
  refine OS.pure rfl (fun _ => rfl) rfl ?_
  refine OS.pure rfl (fun _ => rfl) rfl ?_
  refine OS.pure rfl (fun _ => rfl) rfl ?_
  refine OS.call noGo rfl (fun _ => rfl) ((jDisk_nil).mono ?_)
  rintro v L' ⟨rfl, hLL⟩
  subst hLL
  refine ⟨_, rfl, ?_⟩
  refine OS.pure rfl (fun _ => rfl) rfl ?_
  refine OS.pure rfl (fun _ => rfl) rfl ?_
  refine OS.nil ?_
  refine LS.cond rfl (fun hc => by cases hc) (fun hc => ?_)
  refine LS.skip ?_
  repeat refine LS.seq ?_
  refine LS.region rfl ?_
  refine OS.pure rfl (fun _ => rfl) rfl ?_
  refine OS.nil ?_
  repeat refine LS.seq ?_
  refine LS.region rfl ?_
  refine OS.pure rfl (fun _ => rfl) rfl ?_
  refine OS.nil ?_
  repeat refine LS.seq ?_
  refine LS.block ?_
  refine LS.loopJ [1, 3, 5, 6, 7, 8, 9] (fun q a L' => ∃ (i : Nat) (gs : List Gw) (w : Value) (X Z : RL), q = 121 - i ∧ i ≤ 121 ∧ bd gs = gl i ∧ LV 65 2 w i (gcells gs) X ∧ Reads Z gs ∧ L' = jn rj rd rb ⟨512, D, 0, false, 0, false⟩ (X ++ (Z ++ (Y ++ L))) ∧
    a = [.chan none, .pointer none, .chan none, .int .i64 2, .chan none, .int .i64 2, ptr rd, ptr rj, w, .int .i64 (i : Nat), .chan none, .chan none, .chan none, .chan none, .chan none, .chan none, .chan none, .chan none, .chan none, .chan none, .chan none, .chan none, .chan none, .chan none, .chan none, .chan none, .chan none, .chan none, .chan none, .chan none, .chan none, .chan none, .chan none, .chan none, .chan none, .chan none, .chan none, .chan none, .chan none, .chan none, .chan none, .chan none, .chan none, .chan none, .chan none, .chan none, .chan none, .chan none, .chan none, .chan none, .chan none, .chan none, .chan none, .chan none, .chan none, .chan none, .chan none, .chan none, .chan none, .chan none, .chan none, .chan none, .chan none, .chan none, .chan none, .chan none, .chan none, .chan none, .chan none, .chan none, .chan none, .chan none, .chan none, .chan none, .chan none, .chan none, .chan none, .chan none, .chan none, .chan none, .chan none, .chan none, .chan none, .chan none, .chan none, .chan none, .chan none, .chan none, .chan none, .chan none, .chan none, .chan none, .chan none, .chan none, .chan none, .chan none, .chan none, .chan none, .chan none, .chan none, .chan none, .chan none, .chan none, .chan none, .chan none, .chan none, .chan none, .chan none, .chan none, .chan none, .chan none, .chan none, .chan none, .chan none, .chan none, .chan none, .chan none, .chan none, .chan none, .chan none, .chan none, .chan none, .chan none, .chan none, .chan none, .chan none, .chan none, .chan none, .chan none, .chan none, .chan none, .chan none, .chan none, .chan none, .chan none, .chan none, .chan none, .chan none, .chan none, .chan none, .chan none, .chan none, .chan none, .chan none, .chan none]) (n := 121) rfl ⟨0, [], _, [], [], rfl, by omega, rfl, LV.nil, reads_nil, rfl, rfl⟩ ?_
  rintro q a L' ⟨i, gs, w, X, Z, rfl, hi, hbd, hX, hZ, rfl, rfl⟩
  have hgl : gs.length = i := by have := congrArg List.length hbd; rwa [bd_len, gl_len] at this
  repeat refine LS.seq ?_
  refine LS.region rfl ?_
  refine OS.pure rfl (fun _ => rfl) rfl ?_
  refine OS.pure rfl (fun _ => rfl) rfl ?_
  refine OS.nil ?_
  repeat refine LS.seq ?_
  refine LS.cond rfl (fun hc => ?_) (fun hc => ?_)
  · have hc : (i : Int) < (121 : Nat) := lt_of hc
    have hin : i < 121 := by omega
    refine LS.skip ?_
    repeat refine LS.seq ?_
    refine LS.block ?_
    repeat refine LS.seq ?_
    refine LS.region rfl ?_
    refine OS.pure rfl (fun _ => rfl) rfl ?_
    refine OS.pure rfl (fun _ => rfl) rfl ?_
    refine OS.pure rfl (e_is (e_add (k := .i64) (m := 130) (n := ((i : Nat) : Int)) rfl rfl rfl (in_i64 (by omega) (by omega))) (congrArg (Value.int .i64) (show (130 : Int) + ((i : Nat) : Int) = ((130 + i : Nat) : Int) by omega))) rfl ?_
    refine OS.pure rfl (fun _ => rfl) rfl ?_
    refine OS.pure rfl (e_is (e_conv (k' := .u8) rfl rfl rfl rfl (in_u8 (by omega) (by omega))) (congrArg (Value.int .u8) (show ((i : Nat) : Int) = ((UInt8.ofNat i).toNat : Nat) by simp; omega))) rfl ?_
    refine OS.call noGo rfl (fun _ => rfl) ((full4_ct (UInt8.ofNat i)).mono ?_)
    rintro v L' ⟨ra, rfl, rfl⟩
    refine ⟨_, rfl, ?_⟩
    refine OS.pure rfl (fun _ => rfl) rfl ?_
    refine OS.fresh rfl (e_new (fun _ => rfl) rfl) (fun _ => rfl) (fun rz => ?_)
    refine OS.fresh rfl (e_appendLV [(rz, _), (ra, _), (rj, _), (rd, _), (rb, _)] (m := 1) (sz := 2) (bts := 32) hX (SV.row (sz := 2) (n := 1) (cs := [.int .i64 (130 + i : Nat), blkv ra]) (List.mem_cons_self ..) rfl) (by omega) rfl rfl rfl rfl (by omega) (by omega)) (fun _ => rfl) (fun rn => ?_)
    refine OS.sub (Sub.drop 1 rfl) ?_
    refine OS.sub (Sub.pulls [4, 4, 4] rfl) ?_
    refine OS.pure rfl (fun _ => rfl) rfl ?_
    refine OS.nil ?_
    repeat refine LS.seq ?_
    refine LS.region rfl ?_
    refine OS.pure rfl (fun _ => rfl) rfl ?_
    refine OS.pure rfl (e_add rfl rfl rfl (in_i64 (by omega) (by omega))) rfl ?_
    refine OS.pure rfl (fun _ => rfl) rfl ?_
    refine OS.nil ?_
    refine ⟨121 - (i + 1), by omega, i + 1, gs ++ [⟨((130 + i : Nat) : Int), blkv ra, rep (UInt8.ofNat i)⟩], _, [(rn, _)], (ra, _) :: Z, rfl, by omega, ?_, ?_, ?_, rfl, rfl⟩
    · rw [gl_succ, ← hbd]; simp [bd]
    · rw [gcells_app]
      exact LV.row (by omega) (by rw [List.length_append, gcells_len, hgl]; simp; omega)
    · intro g hg
      rcases List.mem_append.1 hg with hg | hg
      · obtain ⟨m, hm⟩ := hZ g hg; exact ⟨m, hm.cons⟩
      · rw [List.mem_singleton.1 hg]
        exact ⟨256, SV.row (List.mem_cons_self ..) rep_len⟩
  have hc : ((121 : Nat) : Int) ≤ i := nlt_of hc
  have hin : i = 121 := by omega
  subst hin
  rcases hX with ⟨_, h0, _⟩ | ⟨_, _, h0, _⟩ | ⟨rl, rfl, _, hcl, rfl⟩
  · cases h0
  · cases h0
  refine LS.exit ?_
  have hF : ∀ p, p ∈ Z → p ∈ ([(rl, .cells 65 (gcells gs))] ++ (Z ++ (Y ++ L)) : RL) := fun p hp => List.mem_append_right _ (List.mem_append_left _ hp)
  have hbt : bd (gs.take 120) = gl 120 := by
    have : bd (gs.take 120) = (bd gs).take 120 := by simp [bd, List.map_take]
    rw [this, hbd, gl_succ (i := 120)]
    exact List.take_left' (by rw [gl_len])
  obtain ⟨D1, hD1⟩ : ∃ D1, D1 = wrs D (doW (gl 120)) := ⟨_, rfl⟩
  have g1 := gl_good (i := 120) (Nat.le_refl _)
  obtain ⟨a1, _, _, _⟩ := do_all g1 (by decide) (by rw [gl_len]; decide) hD
  rw [← hD1] at a1
  have r1 : doD ⟨512, D, 0, false, 0, false⟩ (gl 120) = (0, ⟨512, D1, 242, false, 0, false⟩) := by
    rw [doD_good rfl g1 (by rw [gl_len]; decide) (by intro h; have := congrArg List.length h; rw [gl_len] at this; cases this), runW_all rfl (g1.fitDo (by decide) (by rw [gl_len]; decide)) (fun h => by cases h), doW_len, gl_len, hD1]
    rfl
  have o1 : Dk.ok ⟨512, D1, 242, false, 0, false⟩ := ok_of a1 (by decide) (by decide) (by decide) (by decide)
  repeat refine LS.seq ?_
  refine LS.drawn noGo mixed [(0, false), (1, false), (3, false), (4, false), (5, false), (2, true), (6, true), (7, false), (8, false)] rfl rfl (by kernel_rfl) ?_
  refine ODS.pure rfl rfl (fun _ => rfl) rfl ?_
  refine ODS.pure rfl rfl (fun _ => rfl) rfl ?_
  refine ODS.pure rfl rfl (fun _ => rfl) rfl ?_
  refine ODS.pure rfl rfl (fun _ => rfl) rfl ?_
  refine ODS.read rfl rfl (e_slice 3 (l := 0) (u := 120) rfl rfl rfl rfl rfl rfl rfl rfl (show 120 ≤ 121 by decide) (show 0 ≤ 120 by decide) rfl) rfl ?_
  refine ODS.call rfl rfl (fun _ => rfl) ((jDo_ct (gs := gs) o0 (show 0 ≤ 800000 by decide) (SV.row (sz := 2) (n := 121) (List.mem_cons_self ..) hcl) (hZ.mono hF)).mono ?_)
  rintro v L' ⟨rfl, rfl⟩
  rw [hbd, doD_full rfl (by rw [gl_len]; decide)]
  refine ⟨_, rfl, Keep.cons rfl (e_slice 3 (l := 0) (u := 120) rfl rfl rfl rfl rfl rfl rfl rfl (show 120 ≤ 121 by decide) (show 0 ≤ 120 by decide) rfl) Keep.nil, ?_⟩
  refine ODS.call rfl rfl (fun _ => rfl) ((jDo_ct (gs := gs.take 120) o0 (show 0 ≤ 800000 by decide) (.inr ⟨rl, 0, _, _, _, rfl, List.mem_cons_self .., rfl, gcells_cut (by omega)⟩) (fun g hg => (hZ.mono hF) g (List.mem_of_mem_take hg))).mono ?_)
  rintro v L' ⟨rfl, rfl⟩
  rw [hbt, r1]
  refine ⟨_, rfl, Keep.gone rfl Keep.nil, ?_⟩
  refine ODS.pure rfl rfl (fun _ => rfl) rfl ?_
  refine ODS.pure rfl rfl (fun _ => rfl) rfl ?_
  refine ODS.nil ?_
  repeat refine LS.seq ?_
  refine LS.region rfl ?_
  refine OS.pure rfl (fun _ => rfl) rfl ?_
  refine OS.call noGo rfl (fun _ => rfl) ((jRead_out (s := ⟨512, D1, 242, false, 0, false⟩) rfl 121 (by simp [plainP])).mono ?_)
  rintro v L' ⟨rfl, rfl⟩
  refine ⟨_, rfl, ?_⟩
  refine OS.pure rfl (fun _ => rfl) rfl ?_
  refine OS.pure rfl (fun _ => rfl) rfl ?_
  refine OS.pure rfl (fun _ => rfl) rfl ?_
  refine OS.pure rfl (fun _ => rfl) rfl ?_
  refine OS.pure rfl (fun _ => rfl) rfl ?_
  refine OS.nil ?_
  have w1 : rawD ⟨512, D1, 242, false, 0, false⟩ 1 (rep 0) = (1, ⟨512, D1, 242, false, 0, false⟩) := by
    unfold rawD; rw [if_neg (by simp), if_neg (by simp [plainP])]
  have w2 : rawD ⟨512, D1, 242, false, 0, false⟩ 122 (List.replicate 255 0) = (1, ⟨512, D1, 242, false, 0, false⟩) := by
    unfold rawD wrD; rw [if_neg (by simp), if_pos (by simp [plainP]), if_neg (by simp), if_pos (by rw [List.length_replicate]; omega)]
  have w3 : rawD ⟨512, D1, 242, true, 0, false⟩ 122 (rep 9) = (20, ⟨512, D1, 242, true, 0, true⟩) := by
    unfold rawD wrD; rw [if_neg (by simp), if_pos (by simp [plainP]), if_neg (by simp), if_neg (by rw [List.length_replicate]; simp), if_pos ⟨rfl, rfl⟩]
  repeat refine LS.seq ?_
  refine LS.region rfl ?_
  refine OS.pure rfl (fun _ => rfl) rfl ?_
  refine OS.call noGo rfl (fun _ => rfl) ((full4_ct 0).mono ?_)
  rintro v L' ⟨ra, rfl, rfl⟩
  refine ⟨_, rfl, ?_⟩
  refine OS.sub (Sub.pulls [3, 3, 3] rfl) ?_
  refine OS.call noGo rfl (fun _ => rfl) ((jRaw_ct o1 1 (SV.row (List.mem_cons_self ..) rep_len)).mono ?_)
  rintro v L' ⟨rfl, rfl⟩
  rw [w1]
  refine ⟨_, rfl, ?_⟩
  refine OS.sub (Sub.drop 3 rfl) ?_
  refine OS.pure rfl (fun _ => rfl) rfl ?_
  refine OS.nil ?_
  repeat refine LS.seq ?_
  refine LS.region rfl ?_
  refine OS.pure rfl (fun _ => rfl) rfl ?_
  refine OS.call noGo rfl (fun _ => rfl) ((full4_ct 0).mono ?_)
  rintro v L' ⟨ra, rfl, rfl⟩
  refine ⟨_, rfl, ?_⟩
  refine OS.pure rfl (fun _ => rfl) rfl ?_
  refine OS.sub (Sub.pulls [3, 3, 3] rfl) ?_
  refine OS.call noGo rfl (fun _ => rfl) ((jRaw_ct o1 122 (m := 255) (bs := List.replicate 255 0) (.inr ⟨ra, 0, _, _, _, rfl, List.mem_cons_self .., rfl, by kernel_rfl⟩)).mono ?_)
  rintro v L' ⟨rfl, rfl⟩
  rw [w2]
  refine ⟨_, rfl, ?_⟩
  refine OS.sub (Sub.drop 3 rfl) ?_
  refine OS.pure rfl (fun _ => rfl) rfl ?_
  refine OS.nil ?_
  repeat refine LS.seq ?_
  refine LS.region rfl ?_
  refine OS.pure rfl (fun _ => rfl) rfl ?_
  refine OS.call noGo rfl (fun _ => rfl) ((jDo_ct (gs := []) o1 (show 242 ≤ 800000 by decide) (.inl ⟨rfl, rfl, rfl⟩) reads_nil).mono ?_)
  rintro v L' ⟨rfl, rfl⟩
  rw [show bd [] = [] from rfl, doD_empty rfl]
  refine ⟨_, rfl, ?_⟩
  refine OS.pure rfl (fun _ => rfl) rfl ?_
  refine OS.nil ?_
  repeat refine LS.seq ?_
  refine LS.region rfl ?_
  refine OS.pure rfl (fun _ => rfl) rfl ?_
  refine OS.sub (Sub.pulls [2, 2] rfl) ?_
  refine OS.call noGo rfl (fun _ => rfl) ((Cut_ct (s := ⟨512, D1, 242, false, 0, false⟩) rfl 0 (by decide)).mono ?_)
  rintro v L' ⟨rfl, rfl⟩
  refine ⟨_, rfl, ?_⟩
  refine OS.sub (Sub.pulls [2] rfl) ?_
  refine OS.pure rfl (fun _ => rfl) rfl ?_
  refine OS.nil ?_
  have o2 : Dk.ok ⟨512, D1, 242, true, 0, false⟩ := ok_of a1 (by decide) (by decide) (by decide) (by decide)
  repeat refine LS.seq ?_
  refine LS.region rfl ?_
  refine OS.pure rfl (fun _ => rfl) rfl ?_
  refine OS.call noGo rfl (fun _ => rfl) ((full4_ct 9).mono ?_)
  rintro v L' ⟨ra, rfl, rfl⟩
  refine ⟨_, rfl, ?_⟩
  refine OS.sub (Sub.pulls [3, 3, 3] rfl) ?_
  refine OS.call noGo rfl (fun _ => rfl) ((jRaw_ct o2 122 (SV.row (List.mem_cons_self ..) rep_len)).mono ?_)
  rintro v L' ⟨rfl, rfl⟩
  rw [w3]
  refine ⟨_, rfl, ?_⟩
  refine OS.sub (Sub.drop 3 rfl) ?_
  refine OS.pure rfl (fun _ => rfl) rfl ?_
  refine OS.nil ?_
  repeat refine LS.seq ?_
  refine LS.region rfl ?_
  refine OS.pure rfl (fun _ => rfl) rfl ?_
  refine OS.sub (Sub.pulls [2, 2] rfl) ?_
  refine OS.call noGo rfl (fun _ => rfl) ((Open_refused (e := 20) (by decide) (Read_dead (s := ⟨512, D1, 242, true, 0, true⟩) rfl _)).mono ?_)
  rintro v L' ⟨rfl, rfl⟩
  refine ⟨_, rfl, ?_⟩
  refine OS.pure rfl (fun _ => rfl) rfl ?_
  refine OS.pure rfl (fun _ => rfl) rfl ?_
  refine OS.pure rfl (fun _ => rfl) rfl ?_
  refine OS.pure rfl (fun _ => rfl) rfl ?_
  refine OS.pure rfl (fun _ => rfl) rfl ?_
  refine OS.nil ?_
  repeat refine LS.seq ?_
  refine LS.region rfl ?_
  refine OS.pure rfl (fun _ => rfl) rfl ?_
  refine OS.pure rfl (fun _ => rfl) rfl ?_
  refine OS.pure rfl (fun _ => rfl) rfl ?_
  refine OS.pure rfl (fun _ => rfl) rfl ?_
  refine OS.pure rfl (fun _ => rfl) rfl ?_
  refine OS.pure rfl (fun _ => rfl) rfl ?_
  refine OS.pure rfl (fun _ => rfl) rfl ?_
  refine OS.pure rfl (fun _ => rfl) rfl ?_
  refine OS.call noGo rfl (fun _ => rfl) ((jRaw_nil _ _).mono ?_)
  rintro v L' ⟨rfl, rfl⟩
  refine ⟨_, rfl, ?_⟩
  refine OS.pure rfl (fun _ => rfl) rfl ?_
  refine OS.pure rfl (fun _ => rfl) rfl ?_
  refine OS.pure rfl (fun _ => rfl) rfl ?_
  refine OS.pure rfl (fun _ => rfl) rfl ?_
  refine OS.pure rfl (fun _ => rfl) rfl ?_
  refine OS.call noGo rfl (fun _ => rfl) ((jDo_nil _).mono ?_)
  rintro v L' ⟨rfl, rfl⟩
  refine ⟨_, rfl, ?_⟩
  refine OS.pure rfl (fun _ => rfl) rfl ?_
  refine OS.pure rfl (fun _ => rfl) rfl ?_
  refine OS.pure rfl (fun _ => rfl) rfl ?_
  refine OS.pure rfl (fun _ => rfl) rfl ?_
  refine OS.pure rfl (fun _ => rfl) rfl ?_
  refine OS.pure rfl (fun _ => rfl) rfl ?_
  refine OS.pure rfl (fun _ => rfl) rfl ?_
  refine OS.pure rfl (fun _ => rfl) rfl ?_
  refine OS.pure rfl (fun _ => rfl) rfl ?_
  refine OS.pure rfl (fun _ => rfl) rfl ?_
  refine OS.pure rfl (fun _ => rfl) rfl ?_
  refine OS.pure rfl (fun _ => rfl) rfl ?_
  refine OS.pure rfl (fun _ => rfl) rfl ?_
  refine OS.pure rfl (fun _ => rfl) rfl ?_
  refine OS.pure rfl (fun _ => rfl) rfl ?_
  refine OS.pure rfl (fun _ => rfl) rfl ?_
  refine OS.pure rfl (fun _ => rfl) rfl ?_
  refine OS.pure rfl (fun _ => rfl) rfl ?_
  refine OS.pure rfl (fun _ => rfl) rfl ?_
  refine OS.pure rfl (fun _ => rfl) rfl ?_
  refine OS.pure rfl (fun _ => rfl) rfl ?_
  refine OS.pure rfl (fun _ => rfl) rfl ?_
  refine OS.pure rfl (fun _ => rfl) rfl ?_
  refine OS.pure rfl (fun _ => rfl) rfl ?_
  refine OS.pure rfl (fun _ => rfl) rfl ?_
  refine OS.pure rfl (fun _ => rfl) rfl ?_
  refine OS.pure rfl (fun _ => rfl) rfl ?_
  refine OS.pure rfl (fun _ => rfl) rfl ?_
  refine OS.pure rfl (fun _ => rfl) rfl ?_
  refine OS.pure rfl (fun _ => rfl) rfl ?_
  refine OS.pure rfl (fun _ => rfl) rfl ?_
  refine OS.pure rfl (fun _ => rfl) rfl ?_
  refine OS.pure rfl (fun _ => rfl) rfl ?_
  refine OS.pure rfl (fun _ => rfl) rfl ?_
  refine OS.pure rfl (fun _ => rfl) rfl ?_
  refine OS.pure rfl (fun _ => rfl) rfl ?_
  refine OS.pure rfl (fun _ => rfl) rfl ?_
  refine OS.pure rfl (fun _ => rfl) rfl ?_
  refine OS.pure rfl (fun _ => rfl) rfl ?_
  refine OS.pure rfl (fun _ => rfl) rfl ?_
  refine OS.pure rfl (fun _ => rfl) rfl ?_
  refine OS.pure rfl (fun _ => rfl) rfl ?_
  refine OS.pure rfl (fun _ => rfl) rfl ?_
  refine OS.call noGo rfl (fun _ => rfl) ((awake_ct).mono ?_)
  rintro v L' ⟨rfl, rfl⟩
  refine ⟨_, rfl, ?_⟩
  refine OS.pure rfl (fun _ => rfl) rfl ?_
  refine OS.pure rfl (fun _ => rfl) rfl ?_
  refine OS.nil ?_
  refine LS.ret ⟨_, fun _ _ => rfl, ?_⟩
  rfl
end Go.Proofs.Ythfgjedcmhllfaa
