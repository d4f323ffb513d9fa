/- Layer 4: the group that counts. -/
import Derived.Test.YteiiekfccecoiaaBJd
namespace Go.Proofs.Yteiiekfccecoiaa
open Go.Am
set_option linter.unusedVariables false
set_option maxRecDepth 20000

theorem makeT_writes : makeT Try.prog 67 = some (100, 2, 32, [.int .i64 0, .slice none 0 0]) := by kernel_rfl
theorem repL_pairs {x y : Value} {n : Nat} : repL [x, y] n = pc (List.replicate n (x, y)) := by
  simp [repL, pc, List.flatMap_replicate]
theorem lay_fst {A B : List (Value × Value)} {x y x' : Value} {i : Nat} (h : A.length = i) : lay (pc (A ++ (x, y) :: B)) (0 + i * 2 + 0) [x'] = some (pc (A ++ (x', y) :: B)) := by
  have hl : (pc A).length = i * 2 := by rw [pc_len, h]
  rw [lay_one (by rw [pc_len]; simp; omega)]
  simp only [pc_append, show 0 + i * 2 + 0 = (pc A).length by omega]
  congr 1
  rw [List.set_append_right _ _ (Nat.le_refl _), Nat.sub_self]
  rfl
theorem lay_snd {A B : List (Value × Value)} {x y y' : Value} {i : Nat} (h : A.length = i) : lay (pc (A ++ (x, y) :: B)) (0 + i * 2 + 1) [y'] = some (pc (A ++ (x, y') :: B)) := by
  have hl : (pc A).length = i * 2 := by rw [pc_len, h]
  rw [lay_one (by rw [pc_len]; simp; omega)]
  simp only [pc_append, show 0 + i * 2 + 1 = (pc A).length + 1 by omega]
  congr 1
  rw [List.set_append_right _ _ (by omega), show (pc A).length + 1 - (pc A).length = 1 by omega]
  rfl
theorem bc_get {h : List UInt8} {j : Nat} {c : UInt8} (e : h[j]? = some c) : (byteCells h)[0 + j * 1]? = some (.int .u8 (c.toNat : Nat)) := by
  rw [show 0 + j * 1 = j by omega]; simp [byteCells, e]
theorem dec_block {b : Int} (h0 : 0 ≤ b) (h1 : b < 32768) : (((u8of b).toNat ||| (u8of (b.fdiv 256)).toNat * 2 ^ 8 : Nat) : Int) = b := by
  have hlt : (u8of b).toNat < 256 := (u8of b).toNat_lt
  rw [or_bytes hlt]
  obtain ⟨k, rfl⟩ := Int.eq_ofNat_of_zero_le h0
  have e : ((k : Nat) : Int).fdiv 256 = ((k / 256 : Nat) : Int) := by
    rw [Int.fdiv_eq_ediv_of_nonneg _ (by decide)]
    omega
  rw [e]
  unfold u8of
  simp
  omega
theorem gs_of {gs : List Gw} {ps : List (Int × List UInt8)} {i : Nat} (h : bd gs = ps.take i) (hi : i ≤ ps.length) : gs.length = i := by
  have := congrArg List.length h
  rw [bd_len, List.length_take] at this
  omega

/-- What stands in the area as a group. -/
def Told (s : Dk) (ps : List (Int × List UInt8)) : Prop :=
  ps.length ≤ 120 ∧ (blk s.D 1)[8]? = some (u8of ps.length) ∧ ∀ i p, ps[i]? = some p → (blk s.D 1)[9 + 2 * i]? = some (u8of p.1) ∧ (blk s.D 1)[10 + 2 * i]? = some (u8of (p.1.fdiv 256)) ∧ 0 ≤ p.1 ∧ p.1 < 32768 ∧ p.2 = blk s.D (2 + i)

set_option maxHeartbeats 1000000 in
theorem pending_ct {F : RL} {rd rb : Nat} {s : Dk} {ps : List (Int × List UInt8)} (hs : s.ok) (hd : s.dead = false) (hT : Told s ps) :
    CS Try.prog 34 [ptr rd] (dk rd rb s F) fun v L' => ∃ w Y, v = .tuple #[w, .int .i64 0] ∧ L' = dk rd rb s (Y ++ F) ∧
      ((w = .slice none 0 0 ∧ ¬ (Good s.n ps ∧ blk s.D 1 = headB ps)) ∨ ∃ r gs, w = .slice (some ⟨r, 0, none⟩) ps.length ps.length ∧ bd gs = ps ∧ SV 2 Y w ps.length (gcells gs) ∧ Reads Y gs ∧ Good s.n ps ∧ blk s.D 1 = headB ps) := by
  obtain ⟨hn, hcount, hat⟩ := hT
  have hbl := blk_len hs.1 (show 1 < s.n by have := hs.2.1; omega)
  have h512 := hs.2.1
  refine CS.mk (fn := Try.f34) rfl rfl rfl rfl ?_
  repeat refine LS.seq ?_
  refine LS.region rfl ?_
  refine OS.pure rfl (fun _ => rfl) rfl ?_
  refine OS.pure rfl (fun _ => rfl) rfl ?_
  refine OS.nil ?_
  repeat refine LS.seq ?_
  refine LS.region rfl ?_
  refine OS.pure rfl (fun _ => rfl) rfl ?_
  refine OS.call noGo rfl (fun _ => rfl) ((Read_ct hs hd 1 (by omega)).mono ?_)
  rintro v L' ⟨rh, rfl, rfl⟩
  generalize hhd : blk s.D 1 = hh at hcount hat hbl ⊢
  obtain ⟨n, hnl⟩ : ∃ n, n = ps.length := ⟨_, rfl⟩
  rw [← hnl] at hn hcount ⊢
  refine ⟨_, rfl, ?_⟩
  refine OS.pure rfl (fun _ => rfl) rfl ?_
  refine OS.pure rfl (fun _ => rfl) rfl ?_
  refine OS.pure rfl (fun _ => rfl) rfl ?_
  refine OS.pure rfl (fun _ => rfl) rfl ?_
  refine OS.pure rfl (fun _ => rfl) rfl ?_
  refine OS.nil ?_
  repeat refine LS.seq ?_
  refine LS.region rfl ?_
  refine OS.pure rfl (fun _ => rfl) rfl ?_
  refine OS.pure rfl (fun _ => rfl) rfl ?_
  refine OS.nil ?_
  refine LS.cond rfl (fun hc => by cases hc) (fun hc => ?_)
  refine LS.skip ?_
  have hn8 : ((u8of (n : Nat)).toNat : Int) = (n : Nat) := by unfold u8of; simp; omega
  repeat refine LS.seq ?_
  refine LS.region rfl ?_
  refine OS.pure rfl (fun _ => rfl) rfl ?_
  refine OS.pure rfl (e_index (j := 8) (sz := 1) rfl rfl rfl rfl rfl (by omega)) rfl ?_
  refine OS.read rfl (e_load 0 rfl rfl rfl rfl (part_one rfl (bc_get hcount))) rfl ?_
  refine OS.pure rfl (e_is (e_conv (k' := .i64) rfl rfl rfl rfl (in_i64 (by omega) (by omega))) (congrArg (Value.int .i64) hn8)) rfl ?_
  refine OS.pure rfl (fun _ => rfl) rfl ?_
  refine OS.nil ?_
  have hb : (!ileB (n : Int) 120) = false := by rw [ileB_eq]; simp; omega
  repeat refine LS.seq ?_
  refine LS.region rfl ?_
  refine OS.pure rfl (fun _ => rfl) rfl ?_
  refine OS.pure rfl (e_is (fun _ => rfl) (congrArg Value.bool hb)) rfl ?_
  refine OS.nil ?_
  refine LS.cond rfl (fun hc => by cases hc) (fun hc => ?_)
  refine LS.skip ?_
  repeat refine LS.seq ?_
  refine LS.region rfl ?_
  refine OS.pure rfl (fun _ => rfl) rfl ?_
  refine OS.fresh rfl (e_make (l := n) (c := n) rfl rfl rfl makeT_writes (Nat.le_refl _) (by omega) (by omega)) (fun _ => rfl) (fun rl => ?_)
  rw [repL_pairs]
  refine OS.pure rfl (fun _ => rfl) rfl ?_
  refine OS.sub (Sub.pulls [1, 3, 3] rfl) ?_
  refine OS.nil ?_
  repeat refine LS.seq ?_
  refine LS.region rfl ?_
  refine OS.pure rfl (fun _ => rfl) rfl ?_
  refine OS.pure rfl (fun _ => rfl) rfl ?_
  refine OS.pure rfl (fun _ => rfl) rfl ?_
  refine OS.nil ?_
  repeat refine LS.seq ?_
  refine LS.block ?_
  refine LS.loopJ [0, 4, 7, 26, 27, 28] (fun q a L' => ∃ (i : Nat) (gs : List Gw) (Y : RL), q = n - i ∧ i ≤ n ∧ bd gs = ps.take i ∧ Reads Y gs ∧
    L' = dk rd rb s ((rh, .cells 124 (byteCells hh)) :: (rl, .cells 100 (pc (gp gs ++ List.replicate (n - i) (.int .i64 0, .slice none 0 0)))) :: (Y ++ F)) ∧
    a = [ptr rd, .chan none, .chan none, .chan none, .slice (some ⟨rh, 0, none⟩) 256 256, .chan none, .chan none, .slice (some ⟨rl, 0, none⟩) n n, .chan none, .chan none, .chan none, .chan none, .chan none, .chan none, .chan none, .chan none, .chan none, .chan none, .chan none, .chan none, .chan none, .chan none, .chan none, .chan none, .chan none, .chan none, .slice (some ⟨rl, 0, none⟩) n n, .int .i64 (n : Nat), .int .i64 (i : Nat), .chan none, .chan none, .chan none, .chan none, .chan none, .chan none, .chan none, .chan none, .chan none, .chan none, .chan none, .chan none, .chan none, .chan none, .chan none, .chan none, .chan none, .chan none, .chan none, .chan none, .chan none, .chan none, .chan none, .chan none, .chan none, .chan none, .chan none, .chan none, .chan none, .chan none, .chan none, .chan none, .chan none, .chan none, .chan none, .chan none, .chan none, .chan none, .chan none, .chan none, .chan none, .chan none, .chan none, .chan none, .chan none, .chan none, .chan none, .chan none, .chan none]) (n := n) rfl
    ⟨0, [], [], rfl, by omega, rfl, (fun g hg => by cases hg), rfl, rfl⟩ ?_
  rintro q a L' ⟨i, gs, Y, rfl, hi, hbd, hY, rfl, rfl⟩
  have hgl := gs_of hbd (by omega)
  have hgpl : (gp gs).length = i := by simp [gp, hgl]
  repeat refine LS.seq ?_
  refine LS.region rfl ?_
  refine OS.pure rfl (fun _ => rfl) rfl ?_
  refine OS.nil ?_
  repeat refine LS.seq ?_
  refine LS.cond rfl (fun hc => ?_) (fun hc => ?_)
  · have hc : (i : Int) < n := lt_of hc
    have hin : i < n := by omega
    have hp : ps[i]? = some ps[i] := List.getElem?_eq_getElem (by omega)
    obtain ⟨a1, a2, a3, a4, a5⟩ := hat i _ hp
    generalize ps[i] = p at hp a1 a2 a3 a4 a5
    have hrep : List.replicate (n - i) ((Value.int .i64 0, Value.slice none 0 0) : Value × Value) = (.int .i64 0, .slice none 0 0) :: List.replicate (n - (i + 1)) (.int .i64 0, .slice none 0 0) := by
      rw [show n - i = (n - (i + 1)) + 1 by omega, List.replicate_succ]
    rw [hrep]
    generalize hB : List.replicate (n - (i + 1)) ((Value.int .i64 0, Value.slice none 0 0) : Value × Value) = B
    refine LS.skip ?_
    repeat refine LS.seq ?_
    refine LS.block ?_
    repeat refine LS.seq ?_
    refine LS.region rfl ?_
    refine OS.pure rfl (fun _ => rfl) rfl ?_
    refine OS.pure rfl (fun _ => rfl) rfl ?_
    refine OS.nil ?_
    repeat refine LS.seq ?_
    refine LS.region rfl ?_
    refine OS.pure rfl (fun _ => rfl) rfl ?_
    refine OS.pure rfl (e_is (e_mul (k := .i64) (m := ((i : Nat) : Int)) (n := 2) rfl rfl rfl (in_i64 (by omega) (by omega))) (congrArg (Value.int .i64) (show ((i : Nat) : Int) * 2 = ((2 * i : Nat) : Int) by omega))) rfl ?_
    refine OS.pure rfl (e_is (e_add (k := .i64) (m := 9) (n := ((2 * i : Nat) : Int)) rfl rfl rfl (in_i64 (by omega) (by omega))) (congrArg (Value.int .i64) (show (9 : Int) + ((2 * i : Nat) : Int) = ((9 + 2 * i : Nat) : Int) by omega))) rfl ?_
    refine OS.pure rfl (fun _ => rfl) rfl ?_
    refine OS.nil ?_
    have t1 : (u8of p.1).toNat < 256 := (u8of p.1).toNat_lt
    have t2 : (u8of (p.1.fdiv 256)).toNat < 256 := (u8of (p.1.fdiv 256)).toNat_lt
    repeat refine LS.seq ?_
    refine LS.drawn noGo mixed [(0, false), (1, false), (2, false), (3, false), (4, false), (5, false), (6, false), (7, false), (8, false), (9, false), (10, false), (11, false), (12, false), (13, false), (14, false), (15, false), (16, false), (17, true)] rfl rfl (by kernel_rfl) ?_
    refine ODS.pure rfl rfl (fun _ => rfl) rfl ?_
    refine ODS.pure rfl rfl (fun _ => rfl) rfl ?_
    refine ODS.pure rfl rfl (fun _ => rfl) rfl ?_
    refine ODS.pure rfl rfl (fun _ => rfl) rfl ?_
    refine ODS.pure rfl rfl (e_index (j := 9 + 2 * i) (sz := 1) rfl rfl rfl rfl rfl (by omega)) rfl ?_
    refine ODS.read rfl rfl (e_load 2 rfl rfl rfl rfl (part_one rfl (bc_get a1))) rfl ?_
    refine ODS.pure rfl rfl (e_conv (k' := .i64) rfl rfl rfl rfl (in_i64 (by omega) (by omega))) rfl ?_
    refine ODS.pure rfl rfl (fun _ => rfl) rfl ?_
    refine ODS.pure rfl rfl (fun _ => rfl) rfl ?_
    refine ODS.pure rfl rfl (e_is (e_add (k := .i64) (m := ((9 + 2 * i : Nat) : Int)) (n := 1) rfl rfl rfl (in_i64 (by omega) (by omega))) (congrArg (Value.int .i64) (show ((9 + 2 * i : Nat) : Int) + 1 = ((10 + 2 * i : Nat) : Int) by omega))) rfl ?_
    refine ODS.pure rfl rfl (e_index (j := 10 + 2 * i) (sz := 1) rfl rfl rfl rfl rfl (by omega)) rfl ?_
    refine ODS.read rfl rfl (e_load 2 rfl rfl rfl rfl (part_one rfl (bc_get a2))) rfl ?_
    refine ODS.pure rfl rfl (e_conv (k' := .i64) rfl rfl rfl rfl (in_i64 (by omega) (by omega))) rfl ?_
    refine ODS.pure rfl rfl (e_shlN (k := .i64) (m := (u8of (p.1.fdiv 256)).toNat) (s := 8) rfl rfl rfl (by decide) (in_i64 (by omega) (by omega))) rfl ?_
    refine ODS.pure rfl rfl (e_is (e_orN rfl rfl rfl (by omega) (by omega)) (congrArg (Value.int .i64) (dec_block a3 a4))) rfl ?_
    refine ODS.pure rfl rfl (e_index (j := i) (sz := 2) rfl rfl rfl rfl rfl hin) rfl ?_
    refine ODS.pure rfl rfl (fun _ => rfl) rfl ?_
    refine ODS.write rfl rfl (e_store 3 (n := 1) rfl rfl rfl rfl rfl rfl (lay_fst hgpl) rfl) rfl (Keep.gone rfl (Keep.gone rfl Keep.nil)) ?_
    refine ODS.nil ?_
    repeat refine LS.seq ?_
    refine LS.region rfl ?_
    refine OS.pure rfl (fun _ => rfl) rfl ?_
    refine OS.pure rfl (fun _ => rfl) rfl ?_
    refine OS.pure rfl (fun _ => rfl) rfl ?_
    refine OS.pure rfl (fun _ => rfl) rfl ?_
    refine OS.pure rfl (e_is (e_add (k := .i64) (m := 2) (n := ((i : Nat) : Int)) rfl rfl rfl (in_i64 (by omega) (by omega))) (congrArg (Value.int .i64) (show (2 : Int) + ((i : Nat) : Int) = ((2 + i : Nat) : Int) by omega))) rfl ?_
    refine OS.call noGo rfl (fun _ => rfl) ((Read_ct hs hd (2 + i) (by omega)).mono ?_)
    rintro v L' ⟨rr, rfl, rfl⟩
    rw [← a5]
    refine ⟨_, rfl, ?_⟩
    refine OS.pure rfl (fun _ => rfl) rfl ?_
    refine OS.pure rfl (fun _ => rfl) rfl ?_
    refine OS.pure rfl (fun _ => rfl) rfl ?_
    refine OS.pure rfl (e_index (j := i) (sz := 2) rfl rfl rfl rfl rfl hin) rfl ?_
    refine OS.pure rfl (fun _ => rfl) rfl ?_
    refine OS.write rfl (e_store 4 (n := 1) rfl rfl rfl rfl rfl rfl (lay_snd hgpl) rfl) rfl ?_
    refine OS.pure rfl (fun _ => rfl) rfl ?_
    refine OS.sub (Sub.pulls [4, 4, 4, 4] rfl) ?_
    refine OS.nil ?_
    repeat refine LS.seq ?_
    refine LS.region rfl ?_
    refine OS.pure rfl (fun _ => rfl) rfl ?_
    refine OS.pure rfl (fun _ => rfl) rfl ?_
    refine OS.nil ?_
    refine LS.cond rfl (fun hc => by cases hc) (fun hc => ?_)
    refine LS.skip ?_
    have hp2 : p.2.length = 256 := by rw [a5]; exact blk_len hs.1 (by omega)
    repeat refine LS.seq ?_
    refine LS.region rfl ?_
    refine OS.pure rfl (e_add rfl rfl rfl (in_i64 (by omega) (by omega))) rfl ?_
    refine OS.pure rfl (fun _ => rfl) rfl ?_
    refine OS.nil ?_
    refine ⟨n - (i + 1), by omega, i + 1, gs ++ [⟨p.1, .slice (some ⟨rr, 0, none⟩) 256 256, p.2⟩], (rr, .cells 124 (byteCells p.2)) :: Y, rfl, by omega, ?_, ?_, ?_, rfl⟩
    · rw [List.take_add_one, hp, ← hbd]; simp [bd]
    · intro g hg
      rcases List.mem_append.1 hg with hg | hg
      · obtain ⟨m, hm⟩ := hY g hg; exact ⟨m, hm.cons⟩
      · rw [List.mem_singleton.1 hg]
        exact ⟨256, SV.row (List.mem_cons_self ..) (by rw [byteCells_len]; exact hp2)⟩
    · rw [show gp (gs ++ [⟨p.1, .slice (some ⟨rr, 0, none⟩) 256 256, p.2⟩]) = gp gs ++ [(.int .i64 p.1, .slice (some ⟨rr, 0, none⟩) 256 256)] by simp [gp], List.append_assoc, hB]
      rfl
  have hc : (n : Int) ≤ i := nlt_of hc
  have hin : i = n := by omega
  subst hin
  have hbd : bd gs = ps := by rw [hbd, hnl, List.take_length]
  rw [Nat.sub_self, List.replicate_zero, List.append_nil]
  have hrow : (pc (gp gs)).length = i * 2 := by rw [pc_len, hgpl]
  refine LS.exit ?_
  repeat refine LS.seq ?_
  refine LS.region rfl ?_
  refine OS.pure rfl (fun _ => rfl) rfl ?_
  refine OS.pure rfl (fun _ => rfl) rfl ?_
  refine OS.call noGo rfl (fun _ => rfl) ((fault_ct (gs := gs) (SV.row (e := 100) (r := rl) (by simp) hrow) (hY.mono (fun p hp => List.mem_cons_of_mem _ (List.mem_cons_of_mem _ (List.mem_append_left _ hp)))) hn).mono ?_)
  rintro v L' ⟨hv, rfl⟩
  rw [hbd] at hv
  rcases hv with ⟨rfl, hgood⟩ | ⟨rfl, hbad⟩
  · have h256 : ∀ g ∈ gs, g.d.length ≤ 1000000 := fun g hg => by
      have := (hgood.1 (g.b, g.d) (by rw [← hbd]; exact List.mem_map.2 ⟨g, hg, rfl⟩)).2
      have this : g.d.length = 256 := this
      omega
    refine ⟨_, rfl, ?_⟩
    refine OS.pure rfl (fun _ => rfl) rfl ?_
    refine OS.pure rfl (fun _ => rfl) rfl ?_
    refine OS.pure rfl (fun _ => rfl) rfl ?_
    refine OS.pure rfl (fun _ => rfl) rfl ?_
    refine OS.call noGo rfl (fun _ => rfl) ((headOf_ct (gs := gs) (SV.row (e := 100) (r := rl) (by simp) hrow) (hY.mono (fun p hp => List.mem_cons_of_mem _ (List.mem_cons_of_mem _ (List.mem_cons_of_mem _ (List.mem_cons_of_mem _ (List.mem_append_left _ hp)))))) h256 hn).mono ?_)
    rintro v L' ⟨rz, rfl, rfl⟩
    refine ⟨_, rfl, ?_⟩
    refine OS.call noGo rfl (fun _ => rfl) ((equal_ct (xs := hh) (ys := headB (bd gs)) (SV.row (e := 124) (r := rh) (by simp) (by rw [byteCells_len]; exact hbl)) (SV.row (e := 5) (r := rz) (by simp) (by rw [byteCells_len, headB_len]))).mono ?_)
    rintro v L' ⟨rfl, rfl⟩
    rw [hbd]
    by_cases heq : hh = headB ps
    · rw [decide_eq_true heq]
      refine ⟨_, rfl, ?_⟩
      refine OS.pure rfl (fun _ => rfl) rfl ?_
      refine OS.pure rfl (fun _ => rfl) rfl ?_
      refine OS.sub (Sub.drop 0 rfl) ?_
      refine OS.nil ?_
      refine LS.cond rfl (fun hc => by cases hc) (fun hc => ?_)
      refine LS.skip ?_
      repeat refine LS.seq ?_
      refine LS.region rfl ?_
      refine OS.pure rfl (fun _ => rfl) rfl ?_
      refine OS.pure rfl (fun _ => rfl) rfl ?_
      refine OS.pure rfl (fun _ => rfl) rfl ?_
      refine OS.nil ?_
      refine LS.ret ⟨_, fun _ _ => rfl, ?_⟩
      exact ⟨_, (rh, _) :: (rl, _) :: Y, rfl, rfl, .inr ⟨rl, gs, rfl, hbd, SV.row (e := 100) (r := rl) (by simp) hrow, hY.mono (fun p hp => List.mem_cons_of_mem _ (List.mem_cons_of_mem _ hp)), hgood, heq⟩⟩
    · rw [decide_eq_false heq]
      refine ⟨_, rfl, ?_⟩
      refine OS.pure rfl (fun _ => rfl) rfl ?_
      refine OS.pure rfl (fun _ => rfl) rfl ?_
      refine OS.sub (Sub.drop 0 rfl) ?_
      refine OS.nil ?_
      refine LS.cond rfl (fun hc => ?_) (fun hc => by cases hc)
      repeat refine LS.seq ?_
      refine LS.region rfl ?_
      refine OS.pure rfl (fun _ => rfl) rfl ?_
      refine OS.pure rfl (fun _ => rfl) rfl ?_
      refine OS.nil ?_
      refine LS.ret ⟨_, fun _ _ => rfl, ?_⟩
      exact ⟨_, (rh, _) :: (rl, _) :: Y, rfl, rfl, .inl ⟨rfl, fun h => heq h.2⟩⟩
  · refine ⟨_, rfl, ?_⟩
    refine OS.pure rfl (fun _ => rfl) rfl ?_
    refine OS.pure rfl (fun _ => rfl) rfl ?_
    refine OS.skip rfl rfl ?_
    refine OS.skip rfl rfl ?_
    refine OS.skip rfl rfl ?_
    refine OS.skip rfl rfl ?_
    refine OS.skip rfl rfl ?_
    refine OS.pure rfl (fun _ => rfl) rfl ?_
    refine OS.nil ?_
    refine LS.cond rfl (fun hc => ?_) (fun hc => by cases hc)
    repeat refine LS.seq ?_
    refine LS.region rfl ?_
    refine OS.pure rfl (fun _ => rfl) rfl ?_
    refine OS.pure rfl (fun _ => rfl) rfl ?_
    refine OS.nil ?_
    refine LS.ret ⟨_, fun _ _ => rfl, ?_⟩
    exact ⟨_, (rh, _) :: (rl, _) :: Y, rfl, rfl, .inl ⟨rfl, fun h => hbad h.1⟩⟩
end Go.Proofs.Yteiiekfccecoiaa
