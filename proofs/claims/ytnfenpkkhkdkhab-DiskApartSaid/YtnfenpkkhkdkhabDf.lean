/- Layer 3: DiskApart. -/
import Derived.Test.YtnfenpkkhkdkhabDe
namespace Go.Proofs.Ytnfenpkkhkdkhab
open Go.Am
set_option linter.unusedVariables false
set_option maxRecDepth 20000

/-- A copy: the same disk, in rows of its own. -/
theorem Copy_ct {F : RL} {rd rb : Nat} {s : Dk} (hs : s.ok) : CS Try.prog 9 [ptr rd] (dk rd rb s F) fun v L' => ∃ rd' rb', v = ptr rd' ∧ L' = dk rd' rb' s (dk rd rb s F) := by
  obtain ⟨n, D, wr, cut, left, dead⟩ := s
  obtain ⟨h1, h2, h3, h4, h5⟩ := hs
  simp only at h1 h2 h3 h4 h5
  refine CS.mk (fn := Try.f9) rfl rfl rfl rfl ?_
  repeat refine LS.seq ?_
  refine LS.region rfl ?_
  refine OS.pure rfl (fun _ => rfl) rfl ?_
  refine OS.nil ?_
  repeat refine LS.seq ?_
  refine LS.region rfl ?_
  refine OS.pure rfl (fun _ => rfl) rfl ?_
  refine OS.pure rfl (fun _ => rfl) rfl ?_
  refine OS.nil ?_
  refine LS.cond rfl (fun hc => by cases hc) (fun hc => ?_)
  refine LS.skip ?_
  repeat refine LS.seq ?_
  refine LS.region rfl ?_
  refine OS.pure rfl (fun _ => rfl) rfl ?_
  refine OS.pure rfl (fun _ => rfl) rfl ?_
  refine OS.read rfl (e_load 0 rfl rfl rfl rfl rfl) rfl ?_
  refine OS.fresh rfl (e_new (fun _ => rfl) rfl) (fun _ => rfl) (fun ro => ?_)
  refine OS.write rfl (e_store 0 rfl rfl rfl rfl rfl rfl rfl rfl) rfl ?_
  refine OS.nil ?_
  repeat refine LS.seq ?_
  refine LS.region rfl ?_
  refine OS.pure rfl (fun _ => rfl) rfl ?_
  refine OS.pure rfl (fun _ => rfl) rfl ?_
  refine OS.pure rfl (fun _ => rfl) rfl ?_
  refine OS.read rfl (e_load 1 rfl rfl rfl rfl rfl) rfl ?_
  refine OS.call noGo rfl (fun _ => rfl) ((copied_ct (List.mem_cons_of_mem _ (List.mem_cons_of_mem _ (List.mem_cons_self ..))) h1 (by omega) h3).mono ?_)
  rintro v L' ⟨r, rfl, rfl⟩
  refine ⟨_, rfl, ?_⟩
  refine OS.sub (Sub.pulls [1] rfl) ?_
  refine OS.pure rfl (fun _ => rfl) rfl ?_
  refine OS.write rfl (e_store 0 rfl rfl rfl rfl rfl rfl rfl rfl) rfl ?_
  refine OS.nil ?_
  repeat refine LS.seq ?_
  refine LS.region rfl ?_
  refine OS.pure rfl (fun _ => rfl) rfl ?_
  refine OS.nil ?_
  refine LS.ret ⟨_, fun _ _ => rfl, ?_⟩
  exact ⟨ro, r, rfl, rfl⟩

/-- A block is read behind a list that grows. -/
theorem Read_behind {e : TypeId} {sz j : Nat} {w : Value} {cs : List Value} {F Lw : RL} {rd rb : Nat} {s : Dk} (g : GV e sz (dk rd rb s F) w j cs Lw) (hs : s.ok) (hd : s.dead = false) (i : Nat) (hi : i < s.n) : CS Try.prog 8 [ptr rd, .int .i64 (i : Nat)] Lw fun v L' => ∃ r, v = .tuple #[.slice (some ⟨r, 0, none⟩) 256 256, .int .i64 0] ∧ L' = (r, .cells 46 (byteCells (blk s.D i))) :: Lw := by
  rcases g with ⟨rfl, rfl, rfl, rfl⟩ | ⟨rw, rfl, hl, rfl⟩
  · exact Read_ct hs hd i hi
  · refine CS.less (CS.sub (Sub.pulls [2, 2] rfl) (Read_ct hs hd i hi)) ?_
    rintro v L' ⟨r, rfl, rfl⟩
    exact ⟨_, Sub.pulls [3, 1] rfl, r, rfl, rfl⟩

/-- The blocks as texts, up to one. -/
def tx (D : List UInt8) (j : Nat) : List Value := (List.range j).map fun i => .string ⟨⟨blk D i⟩⟩
theorem tx_len {D : List UInt8} {j : Nat} : (tx D j).length = j := by simp [tx]
theorem tx_succ {D : List UInt8} {j : Nat} : tx D (j + 1) = tx D j ++ [.string ⟨⟨blk D j⟩⟩] := by simp [tx, List.range_succ]
theorem tx_get {D : List UInt8} {n j : Nat} (h : j < n) : (tx D n)[0 + j * 1]? = some (.string ⟨⟨blk D j⟩⟩) := by
  rw [show 0 + j * 1 = j by omega]; simp [tx, h]
theorem u8_from {i : Nat} (h : i < 200) : (200 : Int) - ((i : Nat) : Int) = ((UInt8.ofNat (200 - i)).toNat : Nat) := by
  rw [show (UInt8.ofNat (200 - i)).toNat = 200 - i by simp; omega]; omega

theorem apart_ct {L : RL} {v0 v1 : Value} {m0 m1 : Nat} {zs0 zs1 : List Int} (h0 : SV 1 L v0 m0 (zs0.map fun z => .int .i64 z)) (h1 : SV 1 L v1 m1 (zs1.map fun z => .int .i64 z)) (hm0 : m0 ≤ 1000000000000000000) (hm1 : m1 ≤ 1000000000000000000) : CS Try.prog 3 [v0, v1] L fun v' _ => v' = .bool true := by
  have hl0 : zs0.length = m0 := by have := h0.len; simpa using this
  have hl1 : zs1.length = m1 := by have := h1.len; simpa using this
  refine CS.mk (fn := Try.f3) rfl rfl rfl rfl ?_
  repeat refine LS.seq ?_
  refine LS.region rfl ?_
  refine OS.pure rfl (fun _ => rfl) rfl ?_
  refine OS.nil ?_
  by_cases hm2 : 200 < m0 + m1
  · have hb : (!ileB ((m0 : Int) + (m1 : Int)) 200) = true := by rw [ileB_eq]; simp; omega
    repeat refine LS.seq ?_
    refine LS.region rfl ?_
    refine OS.call noGo rfl (fun _ => rfl) ((works_ct).mono ?_)
    rintro v' L' ⟨rfl, rfl⟩
    refine ⟨_, rfl, ?_⟩
    refine OS.pure rfl (fun _ => rfl) rfl ?_
    refine OS.pure rfl (fun _ => rfl) rfl ?_
    refine OS.pure rfl (fun _ => rfl) rfl ?_
    refine OS.pure rfl (e_len h0 rfl rfl rfl rfl rfl) rfl ?_
    refine OS.pure rfl (fun _ => rfl) rfl ?_
    refine OS.pure rfl (e_len h1 rfl rfl rfl rfl rfl) rfl ?_
    refine OS.pure rfl (e_add rfl rfl rfl (in_i64 (by omega) (by omega))) rfl ?_
    refine OS.pure rfl (e_is (fun _ => rfl) (congrArg Value.bool hb)) rfl ?_
    refine OS.pure rfl (fun _ => rfl) rfl ?_
    refine OS.nil ?_
    refine LS.cond rfl (fun hc => ?_) (fun hc => by cases hc)
    repeat refine LS.seq ?_
    refine LS.region rfl ?_
    refine OS.call noGo rfl (fun _ => rfl) ((works_ct).mono ?_)
    rintro v' L' ⟨rfl, rfl⟩
    refine ⟨_, rfl, ?_⟩
    refine OS.pure rfl (fun _ => rfl) rfl ?_
    refine OS.nil ?_
    refine LS.ret ⟨_, fun _ _ => rfl, ?_⟩
    rfl
  have hb : (!ileB ((m0 : Int) + (m1 : Int)) 200) = false := by rw [ileB_eq]; simp; omega
  repeat refine LS.seq ?_
  refine LS.region rfl ?_
  refine OS.call noGo rfl (fun _ => rfl) ((works_ct).mono ?_)
  rintro v' L' ⟨rfl, hLL⟩
  have hLL := hLL.symm
  subst hLL
  refine ⟨_, rfl, ?_⟩
  refine OS.pure rfl (fun _ => rfl) rfl ?_
  refine OS.pure rfl (fun _ => rfl) rfl ?_
  refine OS.pure rfl (fun _ => rfl) rfl ?_
  refine OS.pure rfl (e_len h0 rfl rfl rfl rfl rfl) rfl ?_
  refine OS.pure rfl (fun _ => rfl) rfl ?_
  refine OS.pure rfl (e_len h1 rfl rfl rfl rfl rfl) rfl ?_
  refine OS.pure rfl (e_add rfl rfl rfl (in_i64 (by omega) (by omega))) rfl ?_
  refine OS.pure rfl (e_is (fun _ => rfl) (congrArg Value.bool hb)) rfl ?_
  refine OS.pure rfl (fun _ => rfl) rfl ?_
  refine OS.nil ?_
  refine LS.cond rfl (fun hc => by cases hc) (fun hc => ?_)
  refine LS.skip ?_
  repeat refine LS.seq ?_
  refine LS.region rfl ?_
  refine OS.call noGo rfl (fun _ => rfl) ((New_ct 512 (by omega) (by omega)).mono ?_)
  rintro v' L' ⟨rd, rb, rfl, rfl⟩
  have hD0 : (List.replicate (512 * 256) (0 : UInt8)).length = 512 * 256 := List.length_replicate
  generalize List.replicate (512 * 256) (0 : UInt8) = D0 at hD0
  refine ⟨_, rfl, ?_⟩
  refine OS.pure rfl (fun _ => rfl) rfl ?_
  refine OS.pure rfl (fun _ => rfl) rfl ?_
  refine OS.pure rfl (fun _ => rfl) rfl ?_
  refine OS.pure rfl (fun _ => rfl) rfl ?_
  refine OS.pure rfl (fun _ => rfl) rfl ?_
  refine OS.nil ?_
  repeat refine LS.seq ?_
  refine LS.region rfl ?_
  refine OS.pure rfl (fun _ => rfl) rfl ?_
  refine OS.pure rfl (fun _ => rfl) rfl ?_
  refine OS.nil ?_
  refine LS.cond rfl (fun hc => by cases hc) (fun hc => ?_)
  refine LS.skip ?_
  repeat refine LS.seq ?_
  refine LS.region rfl ?_
  refine OS.pure rfl (fun _ => rfl) rfl ?_
  refine OS.nil ?_
  repeat refine LS.seq ?_
  refine LS.block ?_
  refine LS.loopJ [0, 1, 4, 5, 7] (fun q a L' => ∃ i D, q = m0 - i ∧ i ≤ m0 ∧ D.length = 512 * 256 ∧ L' = dk rd rb ⟨512, D, i, false, 0, false⟩ L ∧
    a = [v0, v1, .chan none, .chan none, .bool false, ptr rd, .chan none, .int .i64 (i : Nat), .chan none, .chan none, .chan none, .chan none, .chan none, .chan none, .chan none, .chan none, .chan none, .chan none, .chan none, .chan none, .chan none, .chan none, .chan none, .chan none, .chan none, .chan none, .chan none, .chan none, .chan none, .chan none, .chan none, .chan none, .chan none, .chan none, .chan none, .chan none, .chan none, .chan none, .chan none, .chan none, .chan none, .chan none, .chan none, .chan none, .chan none, .chan none, .chan none, .chan none, .chan none, .chan none, .chan none, .chan none, .chan none, .chan none, .chan none, .chan none, .chan none, .chan none, .chan none, .chan none, .chan none, .chan none, .chan none, .chan none, .chan none, .chan none, .chan none, .chan none, .chan none, .chan none, .chan none, .chan none, .chan none, .chan none, .chan none, .chan none, .chan none, .chan none, .chan none, .chan none, .chan none, .chan none, .chan none, .chan none, .chan none, .chan none, .chan none, .chan none, .chan none, .chan none, .chan none, .chan none, .chan none, .chan none, .chan none, .chan none, .chan none, .chan none, .chan none, .chan none, .chan none, .chan none, .chan none, .chan none, .chan none, .chan none, .chan none, .chan none, .chan none, .chan none, .chan none, .chan none, .chan none, .chan none, .chan none, .chan none, .chan none, .chan none, .chan none, .chan none, .chan none, .chan none, .chan none, .chan none, .chan none, .chan none, .chan none, .chan none, .chan none, .chan none, .chan none, .chan none, .chan none, .chan none, .chan none, .chan none, .chan none, .chan none, .chan none, .chan none, .chan none, .chan none]) (n := m0) rfl ⟨0, D0, rfl, by omega, hD0, rfl, rfl⟩ ?_
  rintro q a L' ⟨i, D, rfl, hi, hD, rfl, rfl⟩
  repeat refine LS.seq ?_
  refine LS.region rfl ?_
  refine OS.pure rfl (fun _ => rfl) rfl ?_
  refine OS.pure rfl (fun _ => rfl) rfl ?_
  refine OS.pure rfl (e_len h0 rfl rfl rfl rfl rfl) rfl ?_
  refine OS.pure rfl (fun _ => rfl) rfl ?_
  refine OS.nil ?_
  repeat refine LS.seq ?_
  refine LS.cond rfl (fun hc => ?_) (fun hc => ?_)
  · have hc : (i : Int) < m0 := lt_of hc
    have hin : i < m0 := by omega
    have ok1 : Dk.ok ⟨512, D, i, false, 0, false⟩ := ok_of hD (by decide) (by decide) (by omega) (by decide)
    have hu8 := u8_of (i := i) (by omega)
    have hK : un zs0[i] % 512 < 512 := Nat.mod_lt _ (by omega)
    refine LS.skip ?_
    repeat refine LS.seq ?_
    refine LS.block ?_
    repeat refine LS.seq ?_
    refine LS.drawn noGo mixed [(0, false), (1, false), (2, false), (3, false), (4, false), (5, false), (6, false), (7, false), (8, false), (9, false), (10, false), (11, true), (12, true), (13, false)] rfl rfl (by kernel_rfl) ?_
    refine ODS.pure rfl rfl (fun _ => rfl) rfl ?_
    refine ODS.pure rfl rfl (fun _ => rfl) rfl ?_
    refine ODS.pure rfl rfl (fun _ => rfl) rfl ?_
    refine ODS.at1 (j := i) (u := .int .i64 zs0[i]) h0.cons.cons (by rw [List.getElem?_map, List.getElem?_eq_getElem (by omega)]; rfl) rfl rfl rfl rfl rfl rfl rfl (fun r0 o0 row0 cs0 m0' c0 g0 => ?_)
    refine ⟨_, rfl, ?_⟩
    refine ODS.read rfl rfl (e_loadm m0' c0 rfl rfl (part_one rfl g0)) rfl ?_
    refine ODS.pure rfl rfl (e_convU rfl rfl rfl rfl) rfl ?_
    refine ODS.pure rfl rfl (e_rem (n := 512) rfl rfl rfl (by decide)) rfl ?_
    refine ODS.pure rfl rfl (e_conv rfl rfl rfl rfl (in_i64 (by omega) (by omega))) rfl ?_
    refine ODS.pure rfl rfl (fun _ => rfl) rfl ?_
    refine ODS.pure rfl rfl (e_add rfl rfl rfl (in_i64 (by omega) (by omega))) rfl ?_
    refine ODS.pure rfl rfl (e_is (e_conv rfl rfl rfl rfl (in_u8 (by omega) (by omega))) (congrArg (Value.int .u8) hu8)) rfl ?_
    refine ODS.call rfl rfl (fun _ => rfl) ((full_ct (UInt8.ofNat (i + 1))).mono ?_)
    rintro v' L' ⟨ra, rfl, rfl⟩
    refine ⟨_, rfl, Keep.cons rfl (e_loadm (List.mem_cons_of_mem _ m0') c0 rfl rfl (part_one rfl g0)) Keep.nil, ?_⟩
    refine ODS.call rfl rfl (fun _ => rfl) ((CS.sub (Sub.pulls [2, 2] rfl) (Write_ct ok1 rfl (fun h => by cases h) (un zs0[i] % 512) hK (SV.row (List.mem_cons_self ..) (by rw [byteCells_len, List.length_replicate])))).mono ?_)
    rintro v' L' ⟨rfl, rfl⟩
    refine ⟨_, rfl, Keep.gone rfl Keep.nil, ?_⟩
    refine ODS.pure rfl rfl (fun _ => rfl) rfl ?_
    refine ODS.nil ?_
    refine LS.cond rfl (fun hc => by cases hc) (fun hc => ?_)
    refine LS.skip ?_
    repeat refine LS.seq ?_
    refine LS.region rfl ?_
    refine OS.sub (Sub.drop 2 rfl) ?_
    refine OS.pure rfl (fun _ => rfl) rfl ?_
    refine OS.pure rfl (e_add rfl rfl rfl (in_i64 (by omega) (by omega))) rfl ?_
    refine OS.pure rfl (fun _ => rfl) rfl ?_
    refine OS.nil ?_
    exact ⟨m0 - (i + 1), by omega, i + 1, _, rfl, by omega, put_len hD hK List.length_replicate, rfl, rfl⟩
  have hc : (m0 : Int) ≤ i := nlt_of hc
  have him : i = m0 := by omega
  subst him
  have okD : Dk.ok ⟨512, D, i, false, 0, false⟩ := ok_of hD (by decide) (by decide) (by omega) (by decide)
  refine LS.exit ?_
  repeat refine LS.seq ?_
  refine LS.region rfl ?_
  refine OS.pure rfl (fun _ => rfl) rfl ?_
  refine OS.nil ?_
  repeat refine LS.seq ?_
  refine LS.region rfl ?_
  refine OS.pure rfl (fun _ => rfl) rfl ?_
  refine OS.nil ?_
  repeat refine LS.seq ?_
  refine LS.block ?_
  refine LS.loopJ [0, 1, 4, 5, 8, 9] (fun q a L' => ∃ j w, q = 512 - j ∧ j ≤ 512 ∧ GV 9 1 (dk rd rb ⟨512, D, i, false, 0, false⟩ L) w j (tx D j) L' ∧
    a = [v0, v1, .chan none, .chan none, .bool false, ptr rd, .chan none, .chan none, w, .int .i64 (j : Nat), .chan none, .chan none, .chan none, .chan none, .chan none, .chan none, .chan none, .chan none, .chan none, .chan none, .chan none, .chan none, .chan none, .chan none, .chan none, .chan none, .chan none, .chan none, .chan none, .chan none, .chan none, .chan none, .chan none, .chan none, .chan none, .chan none, .chan none, .chan none, .chan none, .chan none, .chan none, .chan none, .chan none, .chan none, .chan none, .chan none, .chan none, .chan none, .chan none, .chan none, .chan none, .chan none, .chan none, .chan none, .chan none, .chan none, .chan none, .chan none, .chan none, .chan none, .chan none, .chan none, .chan none, .chan none, .chan none, .chan none, .chan none, .chan none, .chan none, .chan none, .chan none, .chan none, .chan none, .chan none, .chan none, .chan none, .chan none, .chan none, .chan none, .chan none, .chan none, .chan none, .chan none, .chan none, .chan none, .chan none, .chan none, .chan none, .chan none, .chan none, .chan none, .chan none, .chan none, .chan none, .chan none, .chan none, .chan none, .chan none, .chan none, .chan none, .chan none, .chan none, .chan none, .chan none, .chan none, .chan none, .chan none, .chan none, .chan none, .chan none, .chan none, .chan none, .chan none, .chan none, .chan none, .chan none, .chan none, .chan none, .chan none, .chan none, .chan none, .chan none, .chan none, .chan none, .chan none, .chan none, .chan none, .chan none, .chan none, .chan none, .chan none, .chan none, .chan none, .chan none, .chan none, .chan none, .chan none, .chan none, .chan none, .chan none, .chan none, .chan none]) (n := 512) rfl ⟨0, _, rfl, by omega, GV.nil, rfl⟩ ?_
  rintro q a L' ⟨j, w, rfl, hj, hg, rfl⟩
  repeat refine LS.seq ?_
  refine LS.region rfl ?_
  refine OS.pure rfl (fun _ => rfl) rfl ?_
  refine OS.pure rfl (fun _ => rfl) rfl ?_
  refine OS.nil ?_
  repeat refine LS.seq ?_
  refine LS.cond rfl (fun hc => ?_) (fun hc => ?_)
  · have hc : (j : Int) < (512 : Nat) := lt_of hc
    have hj2 : j < 512 := by omega
    refine LS.skip ?_
    repeat refine LS.seq ?_
    refine LS.block ?_
    repeat refine LS.seq ?_
    refine LS.region rfl ?_
    refine OS.pure rfl (fun _ => rfl) rfl ?_
    refine OS.pure rfl (fun _ => rfl) rfl ?_
    refine OS.call noGo rfl (fun _ => rfl) ((Read_behind hg okD rfl j hj2).mono ?_)
    rintro v' L2 ⟨r1, rfl, rfl⟩
    refine ⟨_, rfl, ?_⟩
    refine OS.pure rfl (fun _ => rfl) rfl ?_
    refine OS.pure rfl (fun _ => rfl) rfl ?_
    refine OS.pure rfl (fun _ => rfl) rfl ?_
    refine OS.pure rfl (fun _ => rfl) rfl ?_
    refine OS.pure rfl (fun _ => rfl) rfl ?_
    refine OS.nil ?_
    repeat refine LS.seq ?_
    refine LS.region rfl ?_
    refine OS.pure rfl (fun _ => rfl) rfl ?_
    refine OS.pure rfl (fun _ => rfl) rfl ?_
    refine OS.read rfl (e_textSV (n := 256) (bs := blk D j) (SV.row (e := 46) (r := r1) (List.mem_cons_self ..) (by rw [byteCells_len, blk_len hD hj2])) rfl rfl rfl rfl rfl) rfl ?_
    refine OS.fresh rfl (e_new (fun _ => rfl) rfl) (fun _ => rfl) (fun rz => ?_)
    refine OS.fresh rfl (e_appendGV [_, _] (m := 1) (sz := 1) (bts := 16) hg (SV.row (sz := 1) (n := 1) (List.mem_cons_self ..) rfl) (by omega) rfl rfl rfl rfl (by omega) (by omega)) (fun _ => rfl) (fun rw => ?_)
    refine OS.pure rfl (fun _ => rfl) rfl ?_
    refine OS.sub (Sub.drop 1 rfl) ?_
    refine OS.sub (Sub.drop 1 rfl) ?_
    refine OS.nil ?_
    repeat refine LS.seq ?_
    refine LS.region rfl ?_
    refine OS.pure rfl (fun _ => rfl) rfl ?_
    refine OS.pure rfl (e_add rfl rfl rfl (in_i64 (by omega) (by omega))) rfl ?_
    refine OS.pure rfl (fun _ => rfl) rfl ?_
    refine OS.nil ?_
    exact ⟨512 - (j + 1), by omega, j + 1, _, rfl, by omega, by rw [tx_succ]; exact GV.of (by rw [List.length_append, tx_len, Nat.mul_one]; rfl), rfl⟩
  have hc : ((512 : Nat) : Int) ≤ j := nlt_of hc
  have hj3 : j = 512 := by omega
  subst hj3
  rcases hg with ⟨_, h512, _, _⟩ | ⟨rw, rfl, hlx, rfl⟩
  · cases h512
  refine LS.exit ?_
  repeat refine LS.seq ?_
  refine LS.region rfl ?_
  refine OS.pure rfl (fun _ => rfl) rfl ?_
  refine OS.sub (Sub.pulls [2, 2] rfl) ?_
  refine OS.call noGo rfl (fun _ => rfl) ((Copy_ct okD).mono ?_)
  rintro v' L2 ⟨rd', rb', rfl, rfl⟩
  refine ⟨_, rfl, ?_⟩
  refine OS.pure rfl (fun _ => rfl) rfl ?_
  refine OS.nil ?_
  repeat refine LS.seq ?_
  refine LS.region rfl ?_
  refine OS.pure rfl (fun _ => rfl) rfl ?_
  refine OS.nil ?_
  repeat refine LS.seq ?_
  refine LS.block ?_
  have hcon : ∀ {a b c d e : Nat × ARow}, SV 1 (a :: b :: c :: d :: e :: L) v1 m1 (zs1.map fun z => .int .i64 z) := h1.cons.cons.cons.cons.cons
  refine LS.loopJ [0, 1, 4, 5, 8, 12, 13] (fun q a L' => ∃ k E, q = m1 - k ∧ k ≤ m1 ∧ E.length = 512 * 256 ∧ L' = dk rd' rb' ⟨512, E, i + k, false, 0, false⟩ (dk rd rb ⟨512, D, i, false, 0, false⟩ ((rw, .cells 9 (tx D 512)) :: L)) ∧
    a = [v0, v1, .chan none, .chan none, .bool false, ptr rd, .chan none, .chan none, .slice (some ⟨rw, 0, none⟩) 512 openCap, .chan none, .chan none, .chan none, ptr rd', .int .i64 (k : Nat), .chan none, .chan none, .chan none, .chan none, .chan none, .chan none, .chan none, .chan none, .chan none, .chan none, .chan none, .chan none, .chan none, .chan none, .chan none, .chan none, .chan none, .chan none, .chan none, .chan none, .chan none, .chan none, .chan none, .chan none, .chan none, .chan none, .chan none, .chan none, .chan none, .chan none, .chan none, .chan none, .chan none, .chan none, .chan none, .chan none, .chan none, .chan none, .chan none, .chan none, .chan none, .chan none, .chan none, .chan none, .chan none, .chan none, .chan none, .chan none, .chan none, .chan none, .chan none, .chan none, .chan none, .chan none, .chan none, .chan none, .chan none, .chan none, .chan none, .chan none, .chan none, .chan none, .chan none, .chan none, .chan none, .chan none, .chan none, .chan none, .chan none, .chan none, .chan none, .chan none, .chan none, .chan none, .chan none, .chan none, .chan none, .chan none, .chan none, .chan none, .chan none, .chan none, .chan none, .chan none, .chan none, .chan none, .chan none, .chan none, .chan none, .chan none, .chan none, .chan none, .chan none, .chan none, .chan none, .chan none, .chan none, .chan none, .chan none, .chan none, .chan none, .chan none, .chan none, .chan none, .chan none, .chan none, .chan none, .chan none, .chan none, .chan none, .chan none, .chan none, .chan none, .chan none, .chan none, .chan none, .chan none, .chan none, .chan none, .chan none, .chan none, .chan none, .chan none, .chan none, .chan none, .chan none, .chan none, .chan none]) (n := m1) rfl ⟨0, D, rfl, by omega, hD, rfl, rfl⟩ ?_
  rintro q a L' ⟨k, E, rfl, hk, hE, rfl, rfl⟩
  repeat refine LS.seq ?_
  refine LS.region rfl ?_
  refine OS.pure rfl (fun _ => rfl) rfl ?_
  refine OS.pure rfl (fun _ => rfl) rfl ?_
  refine OS.pure rfl (e_len h1 rfl rfl rfl rfl rfl) rfl ?_
  refine OS.pure rfl (fun _ => rfl) rfl ?_
  refine OS.nil ?_
  repeat refine LS.seq ?_
  refine LS.cond rfl (fun hc => ?_) (fun hc => ?_)
  · have hc : (k : Int) < m1 := lt_of hc
    have hin : k < m1 := by omega
    have ok1 : Dk.ok ⟨512, E, i + k, false, 0, false⟩ := ok_of hE (by decide) (by decide) (by omega) (by decide)
    have hu8 := u8_from (i := k) (by omega)
    have hK : un zs1[k] % 512 < 512 := Nat.mod_lt _ (by omega)
    refine LS.skip ?_
    repeat refine LS.seq ?_
    refine LS.block ?_
    repeat refine LS.seq ?_
    refine LS.drawn noGo mixed [(0, false), (1, false), (2, false), (3, false), (4, false), (5, false), (6, false), (7, false), (8, false), (9, false), (10, false), (11, true), (12, true), (13, false)] rfl rfl (by kernel_rfl) ?_
    refine ODS.pure rfl rfl (fun _ => rfl) rfl ?_
    refine ODS.pure rfl rfl (fun _ => rfl) rfl ?_
    refine ODS.pure rfl rfl (fun _ => rfl) rfl ?_
    refine ODS.at1 (j := k) (u := .int .i64 zs1[k]) hcon (by rw [List.getElem?_map, List.getElem?_eq_getElem (by omega)]; rfl) rfl rfl rfl rfl rfl rfl rfl (fun r0 o0 row0 cs0 m0' c0 g0 => ?_)
    refine ⟨_, rfl, ?_⟩
    refine ODS.read rfl rfl (e_loadm m0' c0 rfl rfl (part_one rfl g0)) rfl ?_
    refine ODS.pure rfl rfl (e_convU rfl rfl rfl rfl) rfl ?_
    refine ODS.pure rfl rfl (e_rem (n := 512) rfl rfl rfl (by decide)) rfl ?_
    refine ODS.pure rfl rfl (e_conv rfl rfl rfl rfl (in_i64 (by omega) (by omega))) rfl ?_
    refine ODS.pure rfl rfl (fun _ => rfl) rfl ?_
    refine ODS.pure rfl rfl (e_sub rfl rfl rfl (in_i64 (by omega) (by omega))) rfl ?_
    refine ODS.pure rfl rfl (e_is (e_conv rfl rfl rfl rfl (in_u8 (by omega) (by omega))) (congrArg (Value.int .u8) hu8)) rfl ?_
    refine ODS.call rfl rfl (fun _ => rfl) ((full_ct (UInt8.ofNat (200 - k))).mono ?_)
    rintro v' L' ⟨ra, rfl, rfl⟩
    refine ⟨_, rfl, Keep.cons rfl (e_loadm (List.mem_cons_of_mem _ m0') c0 rfl rfl (part_one rfl g0)) Keep.nil, ?_⟩
    refine ODS.call rfl rfl (fun _ => rfl) ((CS.sub (Sub.pulls [2, 2] rfl) (Write_ct ok1 rfl (fun h => by cases h) (un zs1[k] % 512) hK (SV.row (List.mem_cons_self ..) (by rw [byteCells_len, List.length_replicate])))).mono ?_)
    rintro v' L' ⟨rfl, rfl⟩
    refine ⟨_, rfl, Keep.gone rfl Keep.nil, ?_⟩
    refine ODS.pure rfl rfl (fun _ => rfl) rfl ?_
    refine ODS.nil ?_
    refine LS.cond rfl (fun hc => by cases hc) (fun hc => ?_)
    refine LS.skip ?_
    repeat refine LS.seq ?_
    refine LS.region rfl ?_
    refine OS.sub (Sub.drop 2 rfl) ?_
    refine OS.pure rfl (fun _ => rfl) rfl ?_
    refine OS.pure rfl (e_add rfl rfl rfl (in_i64 (by omega) (by omega))) rfl ?_
    refine OS.pure rfl (fun _ => rfl) rfl ?_
    refine OS.nil ?_
    exact ⟨m1 - (k + 1), by omega, k + 1, _, rfl, by omega, put_len hE hK List.length_replicate, rfl, rfl⟩
  have hc : (m1 : Int) ≤ k := nlt_of hc
  have hkm : k = m1 := by omega
  subst hkm
  have hq0 : (!ieqB ((i : Nat) : Int) ((i : Nat) : Int)) = false := by rw [ieqB_eq]; simp
  have hq1 : (!ieqB ((i + k : Nat) : Int) (((i : Nat) : Int) + ((k : Nat) : Int))) = false := by rw [ieqB_eq]; simp
  refine LS.exit ?_
  repeat refine LS.seq ?_
  refine LS.region rfl ?_
  refine OS.pure rfl (fun _ => rfl) rfl ?_
  refine OS.call noGo rfl (fun _ => rfl) ((Cut_ct (s := ⟨512, E, i + k, false, 0, false⟩) rfl 0 (by decide)).mono ?_)
  rintro v' L2 ⟨rfl, rfl⟩
  refine ⟨_, rfl, ?_⟩
  refine OS.pure rfl (fun _ => rfl) rfl ?_
  refine OS.pure rfl (fun _ => rfl) rfl ?_
  refine OS.pure rfl (fun _ => rfl) rfl ?_
  refine OS.call noGo rfl (fun _ => rfl) ((full_ct 1).mono ?_)
  rintro v' L2 ⟨ra, rfl, rfl⟩
  refine ⟨_, rfl, ?_⟩
  refine OS.sub (Sub.pulls [2, 2] rfl) ?_
  refine OS.call noGo rfl (fun _ => rfl) ((Write_cut (s := ⟨512, E, i + k, true, 0, false⟩) rfl rfl rfl 0 (show 0 < 512 by decide) (SV.row (List.mem_cons_self ..) (by rw [byteCells_len, List.length_replicate]))).mono ?_)
  rintro v' L2 ⟨rfl, rfl⟩
  refine ⟨_, rfl, ?_⟩
  refine OS.sub (Sub.drop 2 rfl) ?_
  refine OS.pure rfl (fun _ => rfl) rfl ?_
  refine OS.pure rfl (fun _ => rfl) rfl ?_
  refine OS.pure rfl (fun _ => rfl) rfl ?_
  refine OS.pure rfl (fun _ => rfl) rfl ?_
  refine OS.sub (Sub.pulls [3, 3] rfl) ?_
  refine OS.call noGo rfl (fun _ => rfl) ((Dead_ct).mono ?_)
  rintro v' L2 ⟨rfl, rfl⟩
  refine ⟨_, rfl, ?_⟩
  refine OS.pure rfl (fun _ => rfl) rfl ?_
  refine OS.pure rfl (fun _ => rfl) rfl ?_
  refine OS.pure rfl (fun _ => rfl) rfl ?_
  refine OS.call noGo rfl (fun _ => rfl) ((Writes_ct).mono ?_)
  rintro v' L2 ⟨rfl, rfl⟩
  refine ⟨_, rfl, ?_⟩
  refine OS.pure rfl (fun _ => rfl) rfl ?_
  refine OS.pure rfl (e_len h0 rfl rfl rfl rfl rfl) rfl ?_
  refine OS.pure rfl (e_is (fun _ => rfl) (congrArg Value.bool hq0)) rfl ?_
  refine OS.pure rfl (fun _ => rfl) rfl ?_
  refine OS.pure rfl (fun _ => rfl) rfl ?_
  refine OS.pure rfl (fun _ => rfl) rfl ?_
  refine OS.sub (Sub.pulls [3, 3] rfl) ?_
  refine OS.call noGo rfl (fun _ => rfl) ((Writes_ct).mono ?_)
  rintro v' L2 ⟨rfl, rfl⟩
  refine ⟨_, rfl, ?_⟩
  refine OS.pure rfl (fun _ => rfl) rfl ?_
  refine OS.pure rfl (e_len h0 rfl rfl rfl rfl rfl) rfl ?_
  refine OS.pure rfl (fun _ => rfl) rfl ?_
  refine OS.pure rfl (e_len h1 rfl rfl rfl rfl rfl) rfl ?_
  refine OS.pure rfl (e_add rfl rfl rfl (in_i64 (by omega) (by omega))) rfl ?_
  refine OS.pure rfl (e_is (fun _ => rfl) (congrArg Value.bool hq1)) rfl ?_
  refine OS.pure rfl (fun _ => rfl) rfl ?_
  refine OS.sub (Sub.pulls [3, 3] rfl) ?_
  refine OS.nil ?_
  refine LS.cond rfl (fun hc => by cases hc) (fun hc => ?_)
  refine LS.skip ?_
  repeat refine LS.seq ?_
  refine LS.region rfl ?_
  refine OS.pure rfl (fun _ => rfl) rfl ?_
  refine OS.nil ?_
  repeat refine LS.seq ?_
  refine LS.block ?_
  refine LS.loopJ [4, 5, 8, 14] (fun q a L' => ∃ j, q = 512 - j ∧ j ≤ 512 ∧ L' = dk rd rb ⟨512, D, i, false, 0, false⟩ (dk rd' rb' ⟨512, E, i + k, true, 0, true⟩ ((rw, .cells 9 (tx D 512)) :: L)) ∧
    a = [.chan none, .chan none, .chan none, .chan none, .bool false, ptr rd, .chan none, .chan none, .slice (some ⟨rw, 0, none⟩) 512 openCap, .chan none, .chan none, .chan none, .chan none, .chan none, .int .i64 (j : Nat), .chan none, .chan none, .chan none, .chan none, .chan none, .chan none, .chan none, .chan none, .chan none, .chan none, .chan none, .chan none, .chan none, .chan none, .chan none, .chan none, .chan none, .chan none, .chan none, .chan none, .chan none, .chan none, .chan none, .chan none, .chan none, .chan none, .chan none, .chan none, .chan none, .chan none, .chan none, .chan none, .chan none, .chan none, .chan none, .chan none, .chan none, .chan none, .chan none, .chan none, .chan none, .chan none, .chan none, .chan none, .chan none, .chan none, .chan none, .chan none, .chan none, .chan none, .chan none, .chan none, .chan none, .chan none, .chan none, .chan none, .chan none, .chan none, .chan none, .chan none, .chan none, .chan none, .chan none, .chan none, .chan none, .chan none, .chan none, .chan none, .chan none, .chan none, .chan none, .chan none, .chan none, .chan none, .chan none, .chan none, .chan none, .chan none, .chan none, .chan none, .chan none, .chan none, .chan none, .chan none, .chan none, .chan none, .chan none, .chan none, .chan none, .chan none, .chan none, .chan none, .chan none, .chan none, .chan none, .chan none, .chan none, .chan none, .chan none, .chan none, .chan none, .chan none, .chan none, .chan none, .chan none, .chan none, .chan none, .chan none, .chan none, .chan none, .chan none, .chan none, .chan none, .chan none, .chan none, .chan none, .chan none, .chan none, .chan none, .chan none, .chan none, .chan none, .chan none, .chan none, .chan none, .chan none, .chan none]) (n := 512) rfl ⟨0, rfl, by omega, rfl, rfl⟩ ?_
  rintro q a L' ⟨j, rfl, hj, rfl, rfl⟩
  repeat refine LS.seq ?_
  refine LS.region rfl ?_
  refine OS.pure rfl (fun _ => rfl) rfl ?_
  refine OS.pure rfl (fun _ => rfl) rfl ?_
  refine OS.nil ?_
  repeat refine LS.seq ?_
  refine LS.cond rfl (fun hc => ?_) (fun hc => ?_)
  · have hc : (j : Int) < (512 : Nat) := lt_of hc
    have hj2 : j < 512 := by omega
    refine LS.skip ?_
    repeat refine LS.seq ?_
    refine LS.block ?_
    repeat refine LS.seq ?_
    refine LS.region rfl ?_
    refine OS.pure rfl (fun _ => rfl) rfl ?_
    refine OS.pure rfl (fun _ => rfl) rfl ?_
    refine OS.call noGo rfl (fun _ => rfl) ((Read_ct okD rfl j hj2).mono ?_)
    rintro v' L2 ⟨r1, rfl, rfl⟩
    refine ⟨_, rfl, ?_⟩
    refine OS.pure rfl (fun _ => rfl) rfl ?_
    refine OS.pure rfl (fun _ => rfl) rfl ?_
    refine OS.pure rfl (fun _ => rfl) rfl ?_
    refine OS.pure rfl (fun _ => rfl) rfl ?_
    refine OS.pure rfl (fun _ => rfl) rfl ?_
    refine OS.nil ?_
    repeat refine LS.seq ?_
    refine LS.drawn noGo mixed [(0, false), (1, false), (2, false), (3, false), (4, false), (5, false), (6, false), (7, false), (8, false), (9, false), (10, false)] rfl rfl (by kernel_rfl) ?_
    refine ODS.pure rfl rfl (fun _ => rfl) rfl ?_
    refine ODS.pure rfl rfl (fun _ => rfl) rfl ?_
    refine ODS.pure rfl rfl (fun _ => rfl) rfl ?_
    refine ODS.pure rfl rfl (fun _ => rfl) rfl ?_
    refine ODS.read rfl rfl (e_textSV (n := 256) (bs := blk D j) (SV.row (e := 46) (r := r1) (List.mem_cons_self ..) (by rw [byteCells_len, blk_len hD hj2])) rfl rfl rfl rfl rfl) rfl ?_
    refine ODS.pure rfl rfl (fun _ => rfl) rfl ?_
    refine ODS.pure rfl rfl (fun _ => rfl) rfl ?_
    refine ODS.pure rfl rfl (e_index (j := j) (sz := 1) rfl rfl rfl rfl rfl hj2) rfl ?_
    refine ODS.read rfl rfl (e_loadm (row := .cells 9 (tx D 512)) (r := rw) (by simp) rfl rfl rfl (part_one rfl (tx_get hj2))) rfl ?_
    refine ODS.pure rfl rfl (e_is (fun _ => rfl) (congrArg Value.bool (show (!bytesEq (blk D j) (blk D j)) = false by rw [bytesEq_eq]; simp))) rfl ?_
    refine ODS.pure rfl rfl (fun _ => rfl) rfl ?_
    refine ODS.nil ?_
    refine LS.cond rfl (fun hc => by cases hc) (fun hc => ?_)
    refine LS.skip ?_
    repeat refine LS.seq ?_
    refine LS.region rfl ?_
    refine OS.sub (Sub.drop 0 rfl) ?_
    refine OS.pure rfl (fun _ => rfl) rfl ?_
    refine OS.pure rfl (e_add rfl rfl rfl (in_i64 (by omega) (by omega))) rfl ?_
    refine OS.pure rfl (fun _ => rfl) rfl ?_
    refine OS.nil ?_
    exact ⟨512 - (j + 1), by omega, j + 1, rfl, by omega, rfl, rfl⟩
  refine LS.exit ?_
  repeat refine LS.seq ?_
  refine LS.region rfl ?_
  refine OS.pure rfl (fun _ => rfl) rfl ?_
  refine OS.nil ?_
  refine LS.ret ⟨_, fun _ _ => rfl, ?_⟩
  rfl
end Go.Proofs.Ytnfenpkkhkdkhab
