/- Layer 4: JournalCuts. -/
import Derived.Test.YthfgjedcmhllfaaJk
import Derived.Test.YthfgjedcmhllfaaUn
namespace Go.Am
variable {X Y G A B : RL} {x : Nat × ARow}
theorem Sub.cons' (s : Sub A B) : Sub (x :: A) (x :: B) := by
  obtain ⟨M, hM⟩ := s
  exact ⟨M, hM.cons x⟩
theorem ne_same' (n : Int) : (!ieqB n n) = false := by rw [ieqB_eq]; simp
end Go.Am
namespace Go.Proofs.Ythfgjedcmhllfaa
open Go.Am
set_option linter.unusedVariables false
set_option maxRecDepth 20000

theorem gcells_app' {gs : List Gw} {g : Gw} : gcells (gs ++ [g]) = gcells gs ++ [.int .i64 g.b, g.v] := by
  unfold gcells gp; rw [List.map_append, pc_append]; rfl
theorem psc_succ {bl : List Int} {b : Int} {c : UInt8} : psc (bl ++ [b]) c = psc bl c ++ [(b, rep c)] := by simp [psc]
theorem bd_app {gs : List Gw} {g : Gw} : bd (gs ++ [g]) = bd gs ++ [(g.b, g.d)] := by simp [bd]
theorem Bl.add {bl : List Int} {b : Int} (h : Bl bl) (hb : 122 ≤ b ∧ b < 512) (hn : b ∉ bl) (hl : bl.length + 1 ≤ 120) : Bl (bl ++ [b]) := by
  refine ⟨fun x hx => ?_, ?_, by rw [List.length_append]; exact hl⟩
  · rcases List.mem_append.1 hx with hx | hx
    · exact h.rng x hx
    · rw [List.mem_singleton.1 hx]; exact hb
  · rw [List.nodup_append]
    refine ⟨h.nd, by simp, fun a ha c hc => ?_⟩
    simp at hc; subst hc; rintro rfl; exact hn ha

/-- The disk, while it is opened again and again. -/
def St (bl : List Int) (e : Int) (s : Dk) : Prop := s.ok ∧ s.n = 512 ∧ s.wr ≤ 1000 ∧
  ((s.dead = true ∧ e = 20 ∧ (Idle s.D ∧ Pl s.D bl 1 ∨ Pend s.D bl)) ∨ (s.dead = false ∧ Idle s.D ∧ (e = 20 ∧ Pl s.D bl 1 ∨ Pl s.D bl 2)))
/-- The disk, ahead of the last Open. -/
def Sv (bl : List Int) (e : Int) (s : Dk) : Prop := s.ok ∧ s.n = 512 ∧ s.wr ≤ 1000 ∧ s.dead = false ∧
  ((Idle s.D ∧ (e = 20 ∧ Pl s.D bl 1 ∨ Pl s.D bl 2)) ∨ (e = 20 ∧ s = ⟨512, s.D, 0, false, 0, false⟩ ∧ Pend s.D bl))
/-- The disk, as it is looked at. -/
def Sw (bl : List Int) (e : Int) (s : Dk) : Prop := s.ok ∧ s.n = 512 ∧ s.dead = false ∧ (e = 20 ∧ Pl s.D bl 1 ∨ Pl s.D bl 2)
def okE (e : Int) : Prop := e = 0 ∨ e = 20

theorem rep_ne : rep 1 ≠ rep 2 := by
  intro h
  have := congrArg (fun l : List UInt8 => l[0]?) h
  simp at this
set_option maxHeartbeats 4000000 in
theorem jcuts_ct {L : RL} {v0 v2 : Value} {m0 m2 : Nat} {zs : List Int} {bs : List UInt8} (cut : Int) (h0 : SV 1 L v0 m0 (zs.map fun z => .int .i64 z)) (h2 : SV 1 L v2 m2 (byteCells bs)) (hm0 : m0 ≤ 1000000000000000000) (hm2 : m2 ≤ 9223372036854775807) :
    CS Try.prog 7 [v0, .int .i64 cut, v2] L fun v' _ => v' = .bool true := by
  have hl0 : zs.length = m0 := by have := h0.len; simpa using this
  have hl2 : bs.length = m2 := by have := h2.len; rw [byteCells_len] at this; omega
  refine CS.mk (fn := Try.f7) rfl rfl rfl rfl ?_
  repeat refine LS.seq ?_
  refine LS.region rfl ?_
  refine OS.pure rfl (fun _ => rfl) rfl ?_
  refine OS.nil ?_
  by_cases hb0 : 120 < m0
  · have hq : (!ileB (m0 : Int) 120) = true := by rw [ileB_eq]; simp; omega
    repeat refine LS.seq ?_
    refine LS.region rfl ?_
    refine OS.pure rfl (fun _ => rfl) rfl ?_
    refine OS.pure rfl (e_len h0 rfl rfl rfl rfl rfl) rfl ?_
    refine OS.pure rfl (e_is (fun _ => rfl) (congrArg Value.bool hq)) rfl ?_
    refine OS.pure rfl (fun _ => rfl) rfl ?_
    refine OS.skip rfl rfl ?_
    refine OS.skip rfl rfl ?_
    refine OS.skip rfl rfl ?_
    refine OS.pure rfl (fun _ => rfl) rfl ?_
    refine OS.pure rfl (fun _ => rfl) rfl ?_
    refine OS.skip rfl rfl ?_
    refine OS.skip rfl rfl ?_
    refine OS.pure rfl (fun _ => rfl) rfl ?_
    refine OS.nil ?_
    refine LS.cond rfl (fun hc => ?_) (fun hc => by cases hc)
    repeat refine LS.seq ?_
    refine LS.region rfl ?_
    refine OS.call noGo rfl (fun _ => rfl) ((awake_ct).mono ?_)
    rintro v' L' ⟨rfl, rfl⟩
    refine ⟨_, rfl, ?_⟩
    refine OS.pure rfl (fun _ => rfl) rfl ?_
    refine OS.nil ?_
    refine LS.ret ⟨_, fun _ _ => rfl, ?_⟩
    rfl
  have hq0 : (!ileB (m0 : Int) 120) = false := by rw [ileB_eq]; simp; omega
  by_cases hb2 : 10 < m2
  · have hq : (!ileB (m2 : Int) 10) = true := by rw [ileB_eq]; simp; omega
    repeat refine LS.seq ?_
    refine LS.region rfl ?_
    refine OS.pure rfl (fun _ => rfl) rfl ?_
    refine OS.pure rfl (e_len h0 rfl rfl rfl rfl rfl) rfl ?_
    refine OS.pure rfl (e_is (fun _ => rfl) (congrArg Value.bool hq0)) rfl ?_
    refine OS.pure rfl (fun _ => rfl) rfl ?_
    refine OS.pure rfl (fun _ => rfl) rfl ?_
    refine OS.pure rfl (e_len h2 rfl rfl rfl rfl rfl) rfl ?_
    refine OS.pure rfl (e_is (fun _ => rfl) (congrArg Value.bool hq)) rfl ?_
    refine OS.pure rfl (fun _ => rfl) rfl ?_
    refine OS.pure rfl (fun _ => rfl) rfl ?_
    refine OS.skip rfl rfl ?_
    refine OS.skip rfl rfl ?_
    refine OS.pure rfl (fun _ => rfl) rfl ?_
    refine OS.nil ?_
    refine LS.cond rfl (fun hc => ?_) (fun hc => by cases hc)
    repeat refine LS.seq ?_
    refine LS.region rfl ?_
    refine OS.call noGo rfl (fun _ => rfl) ((awake_ct).mono ?_)
    rintro v' L' ⟨rfl, rfl⟩
    refine ⟨_, rfl, ?_⟩
    refine OS.pure rfl (fun _ => rfl) rfl ?_
    refine OS.nil ?_
    refine LS.ret ⟨_, fun _ _ => rfl, ?_⟩
    rfl
  have hq2 : (!ileB (m2 : Int) 10) = false := by rw [ileB_eq]; simp; omega
  repeat refine LS.seq ?_
  refine LS.region rfl ?_
  refine OS.pure rfl (fun _ => rfl) rfl ?_
  refine OS.pure rfl (e_len h0 rfl rfl rfl rfl rfl) rfl ?_
  refine OS.pure rfl (e_is (fun _ => rfl) (congrArg Value.bool hq0)) rfl ?_
  refine OS.pure rfl (fun _ => rfl) rfl ?_
  refine OS.pure rfl (fun _ => rfl) rfl ?_
  refine OS.pure rfl (e_len h2 rfl rfl rfl rfl rfl) rfl ?_
  refine OS.pure rfl (e_is (fun _ => rfl) (congrArg Value.bool hq2)) rfl ?_
  refine OS.pure rfl (fun _ => rfl) rfl ?_
  refine OS.pure rfl (fun _ => rfl) rfl ?_
  refine OS.call noGo rfl (fun _ => rfl) ((awake_ct).mono ?_)
  rintro v' L' ⟨rfl, hLL⟩
  have hLL := hLL.symm
  subst hLL
  refine ⟨_, rfl, ?_⟩
  refine OS.pure rfl (fun _ => rfl) rfl ?_
  refine OS.pure rfl (fun _ => rfl) rfl ?_
  refine OS.nil ?_
  refine LS.cond rfl (fun hc => by cases hc) (fun hc => ?_)
  refine LS.skip ?_
  repeat refine LS.seq ?_
  refine LS.region rfl ?_
  refine OS.pure rfl (fun _ => rfl) rfl ?_
  refine OS.pure rfl (fun _ => rfl) rfl ?_
  refine OS.nil ?_
  repeat refine LS.seq ?_
  refine LS.region rfl ?_
  refine OS.fresh rfl (e_makeMap rfl rfl rfl) (fun _ => rfl) (fun rm => ?_)
  refine OS.pure rfl (fun _ => rfl) rfl ?_
  refine OS.nil ?_
  repeat refine LS.seq ?_
  refine LS.region rfl ?_
  refine OS.pure rfl (fun _ => rfl) rfl ?_
  refine OS.nil ?_
  repeat refine LS.seq ?_
  refine LS.block ?_
  refine LS.loopJ [0, 1, 2, 6, 7, 8, 9, 10] (fun q a L' => ∃ (i : Nat) (bl : List Int) (gs1 gs2 : List Gw) (w1 w2 : Value) (X1 X2 Z : RL), q = m0 - i ∧ i ≤ m0 ∧ Bl bl ∧ bl.length ≤ i ∧ bd gs1 = psc bl 1 ∧ bd gs2 = psc bl 2 ∧
    LV 65 2 w1 bl.length (gcells gs1) X1 ∧ LV 65 2 w2 bl.length (gcells gs2) X2 ∧ Reads Z gs1 ∧ Reads Z gs2 ∧ L' = (rm, .map (ents bl 0) bl.length) :: (X1 ++ (X2 ++ (Z ++ L))) ∧
    a = [v0, .int .i64 cut, v2, .chan none, .chan none, .chan none, .bool false, w1, w2, .map (some rm), .int .i64 (i : Nat), .chan none, .chan none, .chan none, .chan none, .chan none, .chan none, .chan none, .chan none, .chan none, .chan none, .chan none, .chan none, .chan none, .chan none, .chan none, .chan none, .chan none, .chan none, .chan none, .chan none, .chan none, .chan none, .chan none, .chan none, .chan none, .chan none, .chan none, .chan none, .chan none, .chan none, .chan none, .chan none, .chan none, .chan none, .chan none, .chan none, .chan none, .chan none, .chan none, .chan none, .chan none, .chan none, .chan none, .chan none, .chan none, .chan none, .chan none, .chan none, .chan none, .chan none, .chan none, .chan none, .chan none, .chan none, .chan none, .chan none, .chan none, .chan none, .chan none, .chan none, .chan none, .chan none, .chan none, .chan none, .chan none, .chan none, .chan none, .chan none, .chan none, .chan none, .chan none, .chan none, .chan none, .chan none, .chan none, .chan none, .chan none, .chan none, .chan none, .chan none, .chan none, .chan none, .chan none, .chan none, .chan none, .chan none, .chan none, .chan none, .chan none, .chan none, .chan none, .chan none, .chan none, .chan none, .chan none, .chan none, .chan none, .chan none, .chan none, .chan none, .chan none, .chan none, .chan none, .chan none, .chan none, .chan none, .chan none, .chan none, .chan none, .chan none, .chan none, .chan none, .chan none, .chan none, .chan none, .chan none, .chan none, .chan none, .chan none, .chan none, .chan none, .chan none, .chan none, .chan none, .chan none, .chan none, .chan none, .chan none, .chan none, .chan none, .chan none, .chan none, .chan none, .chan none, .chan none, .chan none, .chan none, .chan none, .chan none, .chan none, .chan none, .chan none, .chan none, .chan none, .chan none, .chan none, .chan none, .chan none, .chan none, .chan none, .chan none, .chan none, .chan none, .chan none, .chan none, .chan none, .chan none, .chan none, .chan none, .chan none, .chan none, .chan none, .chan none, .chan none, .chan none, .chan none, .chan none, .chan none, .chan none, .chan none, .chan none, .chan none, .chan none, .chan none, .chan none, .chan none, .chan none, .chan none, .chan none, .chan none, .chan none, .chan none, .chan none, .chan none, .chan none, .chan none, .chan none, .chan none, .chan none, .chan none, .chan none, .chan none, .chan none, .chan none, .chan none, .chan none, .chan none, .chan none, .chan none, .chan none, .chan none, .chan none, .chan none, .chan none, .chan none, .chan none, .chan none, .chan none, .chan none, .chan none, .chan none, .chan none, .chan none, .chan none, .chan none, .chan none, .chan none, .chan none, .chan none, .chan none]) (n := m0) rfl
    ⟨0, [], [], [], _, _, [], [], [], rfl, by omega, ⟨fun b hb => (by cases hb), .nil, by simp⟩, Nat.le_refl _, rfl, rfl, LV.nil, LV.nil, reads_nil, reads_nil, rfl, rfl⟩ ?_
  rintro q a L' ⟨i, bl, gs1, gs2, w1, w2, X1, X2, Z, rfl, hi, hbl, hbi, hbd1, hbd2, hX1, hX2, hZ1, hZ2, rfl, rfl⟩
  have hg1 : gs1.length = bl.length := by have := congrArg List.length hbd1; rwa [bd_len, psc_len] at this
  have hg2 : gs2.length = bl.length := by have := congrArg List.length hbd2; rwa [bd_len, psc_len] at this
  repeat refine LS.seq ?_
  refine LS.region rfl ?_
  refine OS.pure rfl (fun _ => rfl) rfl ?_
  refine OS.pure rfl (fun _ => rfl) rfl ?_
  refine OS.pure rfl (e_len h0 rfl rfl rfl rfl rfl) rfl ?_
  refine OS.pure rfl (fun _ => rfl) rfl ?_
  refine OS.nil ?_
  repeat refine LS.seq ?_
  refine LS.cond rfl (fun hc => ?_) (fun hc => ?_)
  · have hc : (i : Int) < m0 := lt_of hc
    have hin : i < m0 := by omega
    refine LS.skip ?_
    repeat refine LS.seq ?_
    refine LS.block ?_
    repeat refine LS.seq ?_
    refine LS.region rfl ?_
    refine OS.pure rfl (fun _ => rfl) rfl ?_
    refine OS.pure rfl (fun _ => rfl) rfl ?_
    refine OS.at1 (j := i) (u := .int .i64 zs[i]) (h0.mono fun p hp => List.mem_cons_of_mem _ (List.mem_append_right _ (List.mem_append_right _ (List.mem_append_right _ hp)))) (by rw [List.getElem?_map, List.getElem?_eq_getElem (by omega)]; rfl) rfl rfl rfl rfl rfl rfl (fun r0 o0 row0 cs0 m0' c0 g0 => ?_)
    refine ⟨_, rfl, ?_⟩
    refine OS.read rfl (e_loadm m0' c0 rfl rfl (part_one rfl g0)) rfl ?_
    refine OS.pure rfl (e_convU rfl rfl rfl rfl) rfl ?_
    refine OS.pure rfl (e_rem (n := 390) rfl rfl rfl (by decide)) rfl ?_
    have hlt := Nat.mod_lt (un zs[i]) (show 390 > 0 by decide)
    generalize un zs[i] % 390 = z at hlt
    refine OS.pure rfl (e_conv rfl rfl rfl rfl (in_i64 (by omega) (by omega))) rfl ?_
    refine OS.pure rfl (e_is (e_add (k := .i64) (m := 122) (n := ((z : Nat) : Int)) rfl rfl rfl (in_i64 (by omega) (by omega))) (congrArg (Value.int .i64) (show (122 : Int) + ((z : Nat) : Int) = ((122 + z : Nat) : Int) by omega))) rfl ?_
    obtain ⟨b, hb⟩ : ∃ b, b = 122 + z := ⟨_, rfl⟩
    rw [← hb]
    refine OS.pure rfl (fun _ => rfl) rfl ?_
    refine OS.nil ?_
    have hfe := find_ents ((b : Nat) : Int) (bs := bl) (k := 0) (i := 0)
    rcases hfe with ⟨hin2, j, hfj⟩ | ⟨hnew, hf0⟩
    · repeat refine LS.seq ?_
      refine LS.region rfl ?_
      refine OS.pure rfl (fun _ => rfl) rfl ?_
      refine OS.pure rfl (fun _ => rfl) rfl ?_
      refine OS.read rfl (e_lookup 0 (v := .int .i64 1) rfl rfl rfl rfl rfl rfl (by rw [hfj]; rfl)) rfl ?_
      refine OS.pure rfl (fun _ => rfl) rfl ?_
      refine OS.nil ?_
      refine LS.cond rfl (fun hc => by cases hc) (fun hc => ?_)
      refine LS.skip ?_
      repeat refine LS.seq ?_
      refine LS.region rfl ?_
      refine OS.pure rfl (fun _ => rfl) rfl ?_
      refine OS.pure rfl (e_add rfl rfl rfl (in_i64 (by omega) (by omega))) rfl ?_
      refine OS.pure rfl (fun _ => rfl) rfl ?_
      refine OS.nil ?_
      exact ⟨m0 - (i + 1), by omega, i + 1, bl, gs1, gs2, w1, w2, X1, X2, Z, rfl, by omega, hbl, by omega, hbd1, hbd2, hX1, hX2, hZ1, hZ2, rfl, rfl⟩
    · repeat refine LS.seq ?_
      refine LS.region rfl ?_
      refine OS.pure rfl (fun _ => rfl) rfl ?_
      refine OS.pure rfl (fun _ => rfl) rfl ?_
      refine OS.read rfl (e_lookup 0 (v := .int .i64 0) rfl rfl rfl rfl rfl rfl (by rw [hf0]; rfl)) rfl ?_
      refine OS.pure rfl (fun _ => rfl) rfl ?_
      refine OS.nil ?_
      refine LS.cond rfl (fun hc => ?_) (fun hc => by cases hc)
      repeat refine LS.seq ?_
      refine LS.region rfl ?_
      refine OS.pure rfl (fun _ => rfl) rfl ?_
      refine OS.pure rfl (fun _ => rfl) rfl ?_
      refine OS.read rfl (e_lookup 0 (v := .int .i64 0) rfl rfl rfl rfl rfl rfl (by rw [hf0]; rfl)) rfl ?_
      refine OS.pure rfl (fun _ => rfl) rfl ?_
      refine OS.write rfl (e_mapUpdate 0 (es2 := addE ⟨.int .i64 (b : Nat), .int .i64 1, bl.length⟩ (ents bl 0)) (clock2 := bl.length + 1) rfl rfl rfl rfl rfl rfl rfl (by rw [hf0]; rfl) rfl) rfl ?_
      rw [ents_add]
      refine OS.nil ?_
      repeat refine LS.seq ?_
      refine LS.region rfl ?_
      refine OS.pure rfl (fun _ => rfl) rfl ?_
      refine OS.pure rfl (fun _ => rfl) rfl ?_
      refine OS.call noGo rfl (fun _ => rfl) ((full4_ct 1).mono ?_)
      rintro v' L' ⟨ra, rfl, rfl⟩
      refine ⟨_, rfl, ?_⟩
      refine OS.pure rfl (fun _ => rfl) rfl ?_
      refine OS.fresh rfl (e_new (fun _ => rfl) rfl) (fun _ => rfl) (fun rz => ?_)
      refine OS.fresh rfl (e_appendLV [(rz, _), (ra, _), (rm, _)] (m := 1) (sz := 2) (bts := 32) hX1 (SV.row (sz := 2) (n := 1) (cs := [.int .i64 (b : Nat), blkv ra]) (List.mem_cons_self ..) rfl) (by omega) rfl rfl rfl rfl (by omega) (by omega)) (fun _ => rfl) (fun rn => ?_)
      refine OS.sub (Sub.drop 1 rfl) ?_
      refine OS.pure rfl (fun _ => rfl) rfl ?_
      refine OS.nil ?_
      repeat refine LS.seq ?_
      refine LS.region rfl ?_
      refine OS.pure rfl (fun _ => rfl) rfl ?_
      refine OS.pure rfl (fun _ => rfl) rfl ?_
      refine OS.call noGo rfl (fun _ => rfl) ((full4_ct 2).mono ?_)
      rintro v' L' ⟨ra2, rfl, rfl⟩
      refine ⟨_, rfl, ?_⟩
      refine OS.pure rfl (fun _ => rfl) rfl ?_
      refine OS.fresh rfl (e_new (fun _ => rfl) rfl) (fun _ => rfl) (fun rz2 => ?_)
      refine OS.fresh rfl (e_appendLV [(rz2, _), (ra2, _), (rn, _), (ra, _), (rm, _)] (m := 1) (sz := 2) (bts := 32) hX2 (SV.row (sz := 2) (n := 1) (cs := [.int .i64 (b : Nat), blkv ra2]) (List.mem_cons_self ..) rfl) (by omega) rfl rfl rfl rfl (by omega) (by omega)) (fun _ => rfl) (fun rn2 => ?_)
      refine OS.sub (Sub.drop 1 rfl) ?_
      refine OS.sub (Sub.pulls [3, 2, 2, 3, 4] rfl) ?_
      refine OS.pure rfl (fun _ => rfl) rfl ?_
      refine OS.nil ?_
      repeat refine LS.seq ?_
      refine LS.region rfl ?_
      refine OS.pure rfl (fun _ => rfl) rfl ?_
      refine OS.pure rfl (e_add rfl rfl rfl (in_i64 (by omega) (by omega))) rfl ?_
      refine OS.pure rfl (fun _ => rfl) rfl ?_
      refine OS.nil ?_
      refine ⟨m0 - (i + 1), by omega, i + 1, bl ++ [((b : Nat) : Int)], gs1 ++ [⟨((b : Nat) : Int), blkv ra, rep 1⟩], gs2 ++ [⟨((b : Nat) : Int), blkv ra2, rep 2⟩], _, _, [(rn, .cells 65 (gcells gs1 ++ [.int .i64 (b : Nat), blkv ra]))], [(rn2, .cells 65 (gcells gs2 ++ [.int .i64 (b : Nat), blkv ra2]))], (ra2, .cells 5 (byteCells (rep 2))) :: (ra, .cells 5 (byteCells (rep 1))) :: Z, rfl, by omega, hbl.add (by omega) hnew (by omega), by rw [List.length_append]; simp; omega, ?_, ?_, ?_, ?_, ?_, ?_, ?_, rfl⟩
      · rw [psc_succ, bd_app, hbd1]
      · rw [psc_succ, bd_app, hbd2]
      · rw [gcells_app', List.length_append]
        exact LV.row (by omega) (by rw [List.length_append, gcells_len, hg1]; simp; omega)
      · rw [gcells_app', List.length_append]
        exact LV.row (by omega) (by rw [List.length_append, gcells_len, hg2]; simp; omega)
      · intro g hg
        rcases List.mem_append.1 hg with hg | hg
        · obtain ⟨m, hm⟩ := hZ1 g hg; exact ⟨m, hm.cons.cons⟩
        · rw [List.mem_singleton.1 hg]
          exact ⟨256, SV.row (List.mem_cons_of_mem _ (List.mem_cons_self ..)) rep_len⟩
      · intro g hg
        rcases List.mem_append.1 hg with hg | hg
        · obtain ⟨m, hm⟩ := hZ2 g hg; exact ⟨m, hm.cons.cons⟩
        · rw [List.mem_singleton.1 hg]
          exact ⟨256, SV.row (List.mem_cons_self ..) rep_len⟩
      · rw [List.length_append]; rfl
  clear hc
  have hlen := hbl.len
  refine LS.exit ?_
  repeat refine LS.seq ?_
  refine LS.region rfl ?_
  refine OS.call noGo rfl (fun _ => rfl) ((fresh_ct).mono ?_)
  rintro v' L' ⟨rd, rb, rj, Y, D, rfl, rfl, hD, hz⟩
  refine ⟨_, rfl, ?_⟩
  refine OS.pure rfl (fun _ => rfl) rfl ?_
  refine OS.pure rfl (fun _ => rfl) rfl ?_
  refine OS.pure rfl (fun _ => rfl) rfl ?_
  refine OS.pure rfl (fun _ => rfl) rfl ?_
  refine OS.pure rfl (fun _ => rfl) rfl ?_
  refine OS.nil ?_
  have o0 : Dk.ok ⟨512, D, 0, false, 0, false⟩ := ok_of hD (by decide) (by decide) (by decide) (by decide)
  obtain ⟨D1, wr1, hd1, a1, a2, a3, a4⟩ := do_one hbl hD hz
  have o1 : Dk.ok ⟨512, D1, wr1, false, 0, false⟩ := ok_of a1 (by decide) (by decide) (by omega) (by decide)
  repeat refine LS.seq ?_
  refine LS.region rfl ?_
  refine OS.pure rfl (fun _ => rfl) rfl ?_
  refine OS.pure rfl (fun _ => rfl) rfl ?_
  refine OS.pure rfl (fun _ => rfl) rfl ?_
  refine OS.pure rfl (fun _ => rfl) rfl ?_
  refine OS.pure rfl (fun _ => rfl) rfl ?_
  refine OS.call noGo rfl (fun _ => rfl) ((jDo_ct (gs := gs1) o0 (show 0 ≤ 800000 by decide) ((hX1.sv (F := X2 ++ (Z ++ L))).mono fun p hp => List.mem_append_right _ (List.mem_cons_of_mem _ hp)) (hZ1.mono fun p hp => List.mem_append_right _ (List.mem_cons_of_mem _ (List.mem_append_right _ (List.mem_append_right _ (List.mem_append_left _ hp)))))).mono ?_)
  rintro v' L' ⟨rfl, rfl⟩
  rw [hbd1, hd1]
  refine ⟨_, rfl, ?_⟩
  refine OS.pure rfl (fun _ => rfl) rfl ?_
  refine OS.pure rfl (fun _ => rfl) rfl ?_
  refine OS.nil ?_
  refine LS.cond rfl (fun hc => by cases hc) (fun hc => ?_)
  refine LS.skip ?_
  have hnlt := Nat.mod_lt (un cut) (show 300 > 0 by decide)
  repeat refine LS.seq ?_
  refine LS.region rfl ?_
  refine OS.pure rfl (fun _ => rfl) rfl ?_
  refine OS.pure rfl (e_convU rfl rfl rfl rfl) rfl ?_
  refine OS.pure rfl (e_rem (n := 300) rfl rfl rfl (by decide)) rfl ?_
  generalize un cut % 300 = n at hnlt
  refine OS.pure rfl (e_conv rfl rfl rfl rfl (in_i64 (by omega) (by omega))) rfl ?_
  refine OS.pure rfl (fun _ => rfl) rfl ?_
  refine OS.nil ?_
  repeat refine LS.seq ?_
  refine LS.region rfl ?_
  refine OS.pure rfl (fun _ => rfl) rfl ?_
  refine OS.pure rfl (fun _ => rfl) rfl ?_
  refine OS.sub (Sub.pulls [2, 2] rfl) ?_
  refine OS.call noGo rfl (fun _ => rfl) ((Cut_ct (s := ⟨512, D1, wr1, false, 0, false⟩) rfl n (by omega)).mono ?_)
  rintro v' L' ⟨rfl, rfl⟩
  refine ⟨_, rfl, ?_⟩
  refine OS.sub (Sub.pulls [2] rfl) ?_
  refine OS.pure rfl (fun _ => rfl) rfl ?_
  refine OS.nil ?_
  refine LS.cond rfl (fun hc => by cases hc) (fun hc => ?_)
  refine LS.skip ?_
  have o2 : Dk.ok ⟨512, D1, wr1, true, n, false⟩ := ok_of a1 (by decide) (by decide) (by omega) (by omega)
  obtain ⟨e, s2, hd2, os2, n2, wr2, hcase⟩ := do_two hbl a1 a4 hnlt a2 a3
  repeat refine LS.seq ?_
  refine LS.region rfl ?_
  refine OS.pure rfl (fun _ => rfl) rfl ?_
  refine OS.pure rfl (fun _ => rfl) rfl ?_
  refine OS.call noGo rfl (fun _ => rfl) ((jDo_ct (gs := gs2) o2 (show wr1 ≤ 800000 by omega) (((hX2.sv (F := Z ++ L)).mono fun p hp => List.mem_append_right _ hp).mono fun p hp => List.mem_append_right _ (List.mem_cons_of_mem _ hp)) (hZ2.mono fun p hp => List.mem_append_right _ (List.mem_cons_of_mem _ (List.mem_append_right _ (List.mem_append_right _ (List.mem_append_left _ hp)))))).mono ?_)
  rintro v' L' ⟨rfl, rfl⟩
  rw [hbd2, hd2]
  refine ⟨_, rfl, ?_⟩
  refine OS.sub (Sub.drop 0 rfl) ?_
  refine OS.sub (Sub.cons' (Sub.cons' Sub.mid)) ?_
  refine OS.pure rfl (fun _ => rfl) rfl ?_
  refine OS.nil ?_
  have hT2 : SV 1 (Y ++ (X1 ++ (X2 ++ (Z ++ L)))) v2 m2 (byteCells bs) := h2.mono fun p hp => List.mem_append_right _ (List.mem_append_right _ (List.mem_append_right _ (List.mem_append_right _ hp)))
  have hTw : SV 2 (Y ++ (X1 ++ (X2 ++ (Z ++ L)))) w2 bl.length (gcells gs2) := ((hX2.sv (F := Z ++ L)).mono fun p hp => List.mem_append_right _ hp).mono fun p hp => List.mem_append_right _ hp
  generalize Y ++ (X1 ++ (X2 ++ (Z ++ L))) = T at hT2 hTw ⊢
  obtain ⟨mp, hmp⟩ : ∃ mp : ARow, mp = .map (ents bl 0) bl.length := ⟨_, rfl⟩
  rw [← hmp]
  have hmul : (2 : Int) * ((bl.length : Nat) : Int) = ((2 * bl.length : Nat) : Int) := by omega
  have hadd : ((2 * bl.length : Nat) : Int) + 2 = ((2 * bl.length + 2 : Nat) : Int) := by omega
  have hSt : St bl e s2 := by
    refine ⟨os2, n2, wr2, ?_⟩
    rcases hcase with ⟨_, hd, hi, hp⟩ | ⟨he, _, hd, hor⟩
    · exact .inr ⟨hd, hi, .inr hp⟩
    · exact .inl ⟨hd, he, hor⟩
  refine LS.seq ?_
  refine LS.mid [2, 6, 8, 9, 12, 15] (fun a L2 => L2 = dk rd rb s2 ((rm, mp) :: T) ∧ a = [.chan none, .chan none, v2, .chan none, .chan none, .chan none, .bool false, .chan none, w2, .map (some rm), .chan none, .chan none, ptr rd, .chan none, .chan none, .int .i64 e, .chan none, .chan none, .chan none, .chan none, .chan none, .chan none, .chan none, .chan none, .chan none, .chan none, .chan none, .chan none, .chan none, .chan none, .chan none, .chan none, .chan none, .chan none, .chan none, .chan none, .chan none, .chan none, .chan none, .chan none, .chan none, .chan none, .chan none, .chan none, .chan none, .chan none, .chan none, .chan none, .chan none, .chan none, .chan none, .chan none, .chan none, .chan none, .chan none, .chan none, .chan none, .chan none, .chan none, .chan none, .chan none, .chan none, .chan none, .chan none, .chan none, .chan none, .chan none, .chan none, .chan none, .chan none, .chan none, .chan none, .chan none, .chan none, .chan none, .chan none, .chan none, .chan none, .chan none, .chan none, .chan none, .chan none, .chan none, .chan none, .chan none, .chan none, .chan none, .chan none, .chan none, .chan none, .chan none, .chan none, .chan none, .chan none, .chan none, .chan none, .chan none, .chan none, .chan none, .chan none, .chan none, .chan none, .chan none, .chan none, .chan none, .chan none, .chan none, .chan none, .chan none, .chan none, .chan none, .chan none, .chan none, .chan none, .chan none, .chan none, .chan none, .chan none, .chan none, .chan none, .chan none, .chan none, .chan none, .chan none, .chan none, .chan none, .chan none, .chan none, .chan none, .chan none, .chan none, .chan none, .chan none, .chan none, .chan none, .chan none, .chan none, .chan none, .chan none, .chan none, .chan none, .chan none, .chan none, .chan none, .chan none, .chan none, .chan none, .chan none, .chan none, .chan none, .chan none, .chan none, .chan none, .chan none, .chan none, .chan none, .chan none, .chan none, .chan none, .chan none, .chan none, .chan none, .chan none, .chan none, .chan none, .chan none, .chan none, .chan none, .chan none, .chan none, .chan none, .chan none, .chan none, .chan none, .chan none, .chan none, .chan none, .chan none, .chan none, .chan none, .chan none, .chan none, .chan none, .chan none, .chan none, .chan none, .chan none, .chan none, .chan none, .chan none, .chan none, .chan none, .chan none, .chan none, .chan none, .chan none, .chan none, .chan none, .chan none, .chan none, .chan none, .chan none, .chan none, .chan none, .chan none, .chan none, .chan none, .chan none, .chan none, .chan none, .chan none, .chan none, .chan none, .chan none, .chan none, .chan none, .chan none, .chan none, .chan none, .chan none, .chan none, .chan none, .chan none, .chan none, .chan none, .chan none, .chan none, .chan none, .chan none, .chan none, .chan none]) ?_ ?_
  · rcases hcase with ⟨rfl, _⟩ | ⟨rfl, hlt, _⟩
    · by_cases hge : 2 * bl.length + 2 ≤ n
      · have hq : ileB ((2 * bl.length + 2 : Nat) : Int) (n : Nat) = true := ileB_iff.2 (by omega)
        repeat refine LS.seq ?_
        refine LS.region rfl ?_
        refine OS.pure rfl (fun _ => rfl) rfl ?_
        refine OS.pure rfl (fun _ => rfl) rfl ?_
        refine OS.pure rfl (e_len hTw rfl rfl rfl rfl rfl) rfl ?_
        refine OS.pure rfl (e_is (e_mul (k := .i64) (m := 2) (n := ((bl.length : Nat) : Int)) rfl rfl rfl (in_i64 (by omega) (by omega))) (congrArg (Value.int .i64) hmul)) rfl ?_
        refine OS.pure rfl (e_is (e_add (k := .i64) (m := ((2 * bl.length : Nat) : Int)) (n := 2) rfl rfl rfl (in_i64 (by omega) (by omega))) (congrArg (Value.int .i64) hadd)) rfl ?_
        refine OS.pure rfl (e_is (fun _ => rfl) (congrArg Value.bool hq)) rfl ?_
        refine OS.pure rfl (fun _ => rfl) rfl ?_
        refine OS.pure rfl (fun _ => rfl) rfl ?_
        refine OS.pure rfl (fun _ => rfl) rfl ?_
        refine OS.pure rfl (fun _ => rfl) rfl ?_
        refine OS.pure rfl (fun _ => rfl) rfl ?_
        refine OS.pure rfl (fun _ => rfl) rfl ?_
        refine OS.pure rfl (fun _ => rfl) rfl ?_
        refine OS.pure rfl (fun _ => rfl) rfl ?_
        refine OS.skip rfl rfl ?_
        refine OS.skip rfl rfl ?_
        refine OS.pure rfl (fun _ => rfl) rfl ?_
        refine OS.pure rfl (fun _ => rfl) rfl ?_
        refine OS.nil ?_
        refine LS.cond rfl (fun hc => by cases hc) (fun hc => ?_)
        refine LS.skip ?_
        exact ⟨rfl, rfl⟩
      · have hq : ileB ((2 * bl.length + 2 : Nat) : Int) (n : Nat) = false := by rw [ileB_eq]; simp; omega
        repeat refine LS.seq ?_
        refine LS.region rfl ?_
        refine OS.pure rfl (fun _ => rfl) rfl ?_
        refine OS.pure rfl (fun _ => rfl) rfl ?_
        refine OS.pure rfl (e_len hTw rfl rfl rfl rfl rfl) rfl ?_
        refine OS.pure rfl (e_is (e_mul (k := .i64) (m := 2) (n := ((bl.length : Nat) : Int)) rfl rfl rfl (in_i64 (by omega) (by omega))) (congrArg (Value.int .i64) hmul)) rfl ?_
        refine OS.pure rfl (e_is (e_add (k := .i64) (m := ((2 * bl.length : Nat) : Int)) (n := 2) rfl rfl rfl (in_i64 (by omega) (by omega))) (congrArg (Value.int .i64) hadd)) rfl ?_
        refine OS.pure rfl (e_is (fun _ => rfl) (congrArg Value.bool hq)) rfl ?_
        refine OS.pure rfl (fun _ => rfl) rfl ?_
        refine OS.skip rfl rfl ?_
        refine OS.skip rfl rfl ?_
        refine OS.pure rfl (fun _ => rfl) rfl ?_
        refine OS.pure rfl (fun _ => rfl) rfl ?_
        refine OS.pure rfl (fun _ => rfl) rfl ?_
        refine OS.pure rfl (fun _ => rfl) rfl ?_
        refine OS.pure rfl (fun _ => rfl) rfl ?_
        refine OS.skip rfl rfl ?_
        refine OS.skip rfl rfl ?_
        refine OS.pure rfl (fun _ => rfl) rfl ?_
        refine OS.pure rfl (fun _ => rfl) rfl ?_
        refine OS.nil ?_
        refine LS.cond rfl (fun hc => by cases hc) (fun hc => ?_)
        refine LS.skip ?_
        exact ⟨rfl, rfl⟩
    · have hq : ileB ((2 * bl.length + 2 : Nat) : Int) (n : Nat) = false := by rw [ileB_eq]; simp; omega
      repeat refine LS.seq ?_
      refine LS.region rfl ?_
      refine OS.pure rfl (fun _ => rfl) rfl ?_
      refine OS.pure rfl (fun _ => rfl) rfl ?_
      refine OS.pure rfl (e_len hTw rfl rfl rfl rfl rfl) rfl ?_
      refine OS.pure rfl (e_is (e_mul (k := .i64) (m := 2) (n := ((bl.length : Nat) : Int)) rfl rfl rfl (in_i64 (by omega) (by omega))) (congrArg (Value.int .i64) hmul)) rfl ?_
      refine OS.pure rfl (e_is (e_add (k := .i64) (m := ((2 * bl.length : Nat) : Int)) (n := 2) rfl rfl rfl (in_i64 (by omega) (by omega))) (congrArg (Value.int .i64) hadd)) rfl ?_
      refine OS.pure rfl (e_is (fun _ => rfl) (congrArg Value.bool hq)) rfl ?_
      refine OS.pure rfl (fun _ => rfl) rfl ?_
      refine OS.skip rfl rfl ?_
      refine OS.skip rfl rfl ?_
      refine OS.pure rfl (fun _ => rfl) rfl ?_
      refine OS.pure rfl (fun _ => rfl) rfl ?_
      refine OS.pure rfl (fun _ => rfl) rfl ?_
      refine OS.pure rfl (fun _ => rfl) rfl ?_
      refine OS.pure rfl (fun _ => rfl) rfl ?_
      refine OS.pure rfl (fun _ => rfl) rfl ?_
      refine OS.pure rfl (fun _ => rfl) rfl ?_
      refine OS.pure rfl (fun _ => rfl) rfl ?_
      refine OS.pure rfl (fun _ => rfl) rfl ?_
      refine OS.nil ?_
      refine LS.cond rfl (fun hc => by cases hc) (fun hc => ?_)
      refine LS.skip ?_
      exact ⟨rfl, rfl⟩
  have he : e = 0 ∨ e = 20 := by
    rcases hcase with ⟨h, _⟩ | ⟨h, _⟩
    · exact .inl h
    · exact .inr h
  clear hcase
  rintro a L2 ⟨rfl, rfl⟩
  repeat refine LS.seq ?_
  refine LS.region rfl ?_
  refine OS.pure rfl (fun _ => rfl) rfl ?_
  refine OS.nil ?_
  refine LS.mid [6, 8, 9, 12, 15] (fun a L2 => ∃ rd rb s T, St bl e s ∧ SV 2 T w2 bl.length (gcells gs2) ∧ L2 = dk rd rb s ((rm, mp) :: T) ∧ a = [.chan none, .chan none, .chan none, .chan none, .chan none, .chan none, .bool false, .chan none, w2, .map (some rm), .chan none, .chan none, ptr rd, .chan none, .chan none, .int .i64 e, .chan none, .chan none, .chan none, .chan none, .chan none, .chan none, .chan none, .chan none, .chan none, .chan none, .chan none, .chan none, .chan none, .chan none, .chan none, .chan none, .chan none, .chan none, .chan none, .chan none, .chan none, .chan none, .chan none, .chan none, .chan none, .chan none, .chan none, .chan none, .chan none, .chan none, .chan none, .chan none, .chan none, .chan none, .chan none, .chan none, .chan none, .chan none, .chan none, .chan none, .chan none, .chan none, .chan none, .chan none, .chan none, .chan none, .chan none, .chan none, .chan none, .chan none, .chan none, .chan none, .chan none, .chan none, .chan none, .chan none, .chan none, .chan none, .chan none, .chan none, .chan none, .chan none, .chan none, .chan none, .chan none, .chan none, .chan none, .chan none, .chan none, .chan none, .chan none, .chan none, .chan none, .chan none, .chan none, .chan none, .chan none, .chan none, .chan none, .chan none, .chan none, .chan none, .chan none, .chan none, .chan none, .chan none, .chan none, .chan none, .chan none, .chan none, .chan none, .chan none, .chan none, .chan none, .chan none, .chan none, .chan none, .chan none, .chan none, .chan none, .chan none, .chan none, .chan none, .chan none, .chan none, .chan none, .chan none, .chan none, .chan none, .chan none, .chan none, .chan none, .chan none, .chan none, .chan none, .chan none, .chan none, .chan none, .chan none, .chan none, .chan none, .chan none, .chan none, .chan none, .chan none, .chan none, .chan none, .chan none, .chan none, .chan none, .chan none, .chan none, .chan none, .chan none, .chan none, .chan none, .chan none, .chan none, .chan none, .chan none, .chan none, .chan none, .chan none, .chan none, .chan none, .chan none, .chan none, .chan none, .chan none, .chan none, .chan none, .chan none, .chan none, .chan none, .chan none, .chan none, .chan none, .chan none, .chan none, .chan none, .chan none, .chan none, .chan none, .chan none, .chan none, .chan none, .chan none, .chan none, .chan none, .chan none, .chan none, .chan none, .chan none, .chan none, .chan none, .chan none, .chan none, .chan none, .chan none, .chan none, .chan none, .chan none, .chan none, .chan none, .chan none, .chan none, .chan none, .chan none, .chan none, .chan none, .chan none, .chan none, .chan none, .chan none, .chan none, .chan none, .chan none, .chan none, .chan none, .chan none, .chan none, .chan none, .chan none, .chan none, .chan none, .chan none, .chan none, .chan none, .chan none, .chan none, .chan none, .chan none, .chan none, .chan none, .chan none]) ?_ ?_
  · repeat refine LS.seq ?_
    refine LS.block ?_
    refine LS.loopJ [2, 6, 8, 9, 12, 15, 16] (fun q a L' => ∃ i rd rb s T, q = m2 - i ∧ i ≤ m2 ∧ St bl e s ∧ SV 1 T v2 m2 (byteCells bs) ∧ SV 2 T w2 bl.length (gcells gs2) ∧ L' = dk rd rb s ((rm, mp) :: T) ∧
      a = [.chan none, .chan none, v2, .chan none, .chan none, .chan none, .bool false, .chan none, w2, .map (some rm), .chan none, .chan none, ptr rd, .chan none, .chan none, .int .i64 e, .int .i64 (i : Nat), .chan none, .chan none, .chan none, .chan none, .chan none, .chan none, .chan none, .chan none, .chan none, .chan none, .chan none, .chan none, .chan none, .chan none, .chan none, .chan none, .chan none, .chan none, .chan none, .chan none, .chan none, .chan none, .chan none, .chan none, .chan none, .chan none, .chan none, .chan none, .chan none, .chan none, .chan none, .chan none, .chan none, .chan none, .chan none, .chan none, .chan none, .chan none, .chan none, .chan none, .chan none, .chan none, .chan none, .chan none, .chan none, .chan none, .chan none, .chan none, .chan none, .chan none, .chan none, .chan none, .chan none, .chan none, .chan none, .chan none, .chan none, .chan none, .chan none, .chan none, .chan none, .chan none, .chan none, .chan none, .chan none, .chan none, .chan none, .chan none, .chan none, .chan none, .chan none, .chan none, .chan none, .chan none, .chan none, .chan none, .chan none, .chan none, .chan none, .chan none, .chan none, .chan none, .chan none, .chan none, .chan none, .chan none, .chan none, .chan none, .chan none, .chan none, .chan none, .chan none, .chan none, .chan none, .chan none, .chan none, .chan none, .chan none, .chan none, .chan none, .chan none, .chan none, .chan none, .chan none, .chan none, .chan none, .chan none, .chan none, .chan none, .chan none, .chan none, .chan none, .chan none, .chan none, .chan none, .chan none, .chan none, .chan none, .chan none, .chan none, .chan none, .chan none, .chan none, .chan none, .chan none, .chan none, .chan none, .chan none, .chan none, .chan none, .chan none, .chan none, .chan none, .chan none, .chan none, .chan none, .chan none, .chan none, .chan none, .chan none, .chan none, .chan none, .chan none, .chan none, .chan none, .chan none, .chan none, .chan none, .chan none, .chan none, .chan none, .chan none, .chan none, .chan none, .chan none, .chan none, .chan none, .chan none, .chan none, .chan none, .chan none, .chan none, .chan none, .chan none, .chan none, .chan none, .chan none, .chan none, .chan none, .chan none, .chan none, .chan none, .chan none, .chan none, .chan none, .chan none, .chan none, .chan none, .chan none, .chan none, .chan none, .chan none, .chan none, .chan none, .chan none, .chan none, .chan none, .chan none, .chan none, .chan none, .chan none, .chan none, .chan none, .chan none, .chan none, .chan none, .chan none, .chan none, .chan none, .chan none, .chan none, .chan none, .chan none, .chan none, .chan none, .chan none, .chan none, .chan none, .chan none, .chan none, .chan none, .chan none, .chan none, .chan none]) (n := m2) rfl ⟨0, rd, rb, s2, T, rfl, by omega, hSt, hT2, hTw, rfl, rfl⟩ ?_
    clear hSt hT2 hTw hd2 os2 n2 wr2
    rintro q a L' ⟨i, rd, rb, s, T, rfl, hi, hSt, hT2, hTw, rfl, rfl⟩
    by_cases him : i < m2
    case neg =>
      have hq : (!ileB (m2 : Int) (i : Nat)) = false := by rw [ileB_eq]; simp; omega
      repeat refine LS.seq ?_
      refine LS.region rfl ?_
      refine OS.pure rfl (fun _ => rfl) rfl ?_
      refine OS.pure rfl (fun _ => rfl) rfl ?_
      refine OS.pure rfl (e_len hT2 rfl rfl rfl rfl rfl) rfl ?_
      refine OS.pure rfl (e_is (fun _ => rfl) (congrArg Value.bool hq)) rfl ?_
      refine OS.pure rfl (fun _ => rfl) rfl ?_
      refine OS.skip rfl rfl ?_
      refine OS.skip rfl rfl ?_
      refine OS.pure rfl (fun _ => rfl) rfl ?_
      refine OS.nil ?_
      repeat refine LS.seq ?_
      refine LS.cond rfl (fun hc => by cases hc) (fun hc => ?_)
      refine LS.exit ?_
      exact ⟨rd, rb, s, T, hSt, hTw, rfl, rfl⟩
    have hq : (!ileB (m2 : Int) (i : Nat)) = true := by rw [ileB_eq]; simp; omega
    obtain ⟨n', D', wr', cut', left', dead'⟩ := s
    obtain ⟨hok, hn5, hwr5, hor⟩ := hSt
    simp only at hn5 hwr5 hor
    subst hn5
    rcases hor with ⟨hd, he20, hcls⟩ | ⟨hd, hcls⟩
    case inr =>
      subst hd
      repeat refine LS.seq ?_
      refine LS.region rfl ?_
      refine OS.pure rfl (fun _ => rfl) rfl ?_
      refine OS.pure rfl (fun _ => rfl) rfl ?_
      refine OS.pure rfl (e_len hT2 rfl rfl rfl rfl rfl) rfl ?_
      refine OS.pure rfl (e_is (fun _ => rfl) (congrArg Value.bool hq)) rfl ?_
      refine OS.pure rfl (fun _ => rfl) rfl ?_
      refine OS.pure rfl (fun _ => rfl) rfl ?_
      refine OS.call noGo rfl (fun _ => rfl) ((Dead_ct).mono ?_)
      rintro v' L' ⟨rfl, rfl⟩
      refine ⟨_, rfl, ?_⟩
      refine OS.pure rfl (fun _ => rfl) rfl ?_
      refine OS.nil ?_
      repeat refine LS.seq ?_
      refine LS.cond rfl (fun hc => by cases hc) (fun hc => ?_)
      refine LS.exit ?_
      exact ⟨rd, rb, _, T, ⟨hok, rfl, hwr5, .inr ⟨rfl, hcls⟩⟩, hTw, rfl, rfl⟩
    subst hd
    subst he20
    repeat refine LS.seq ?_
    refine LS.region rfl ?_
    refine OS.pure rfl (fun _ => rfl) rfl ?_
    refine OS.pure rfl (fun _ => rfl) rfl ?_
    refine OS.pure rfl (e_len hT2 rfl rfl rfl rfl rfl) rfl ?_
    refine OS.pure rfl (e_is (fun _ => rfl) (congrArg Value.bool hq)) rfl ?_
    refine OS.pure rfl (fun _ => rfl) rfl ?_
    refine OS.pure rfl (fun _ => rfl) rfl ?_
    refine OS.call noGo rfl (fun _ => rfl) ((Dead_ct).mono ?_)
    rintro v' L' ⟨rfl, rfl⟩
    refine ⟨_, rfl, ?_⟩
    refine OS.pure rfl (fun _ => rfl) rfl ?_
    refine OS.nil ?_
    repeat refine LS.seq ?_
    refine LS.cond rfl (fun hc => ?_) (fun hc => by cases hc)
    refine LS.skip ?_
    repeat refine LS.seq ?_
    refine LS.block ?_
    repeat refine LS.seq ?_
    refine LS.region rfl ?_
    refine OS.pure rfl (fun _ => rfl) rfl ?_
    refine OS.call noGo rfl (fun _ => rfl) ((Reopen_ct hok rfl).mono ?_)
    rintro v' L' ⟨rd', rb', rfl, rfl⟩
    refine ⟨_, rfl, ?_⟩
    refine OS.sub (Sub.drop 2 rfl) ?_
    refine OS.sub (Sub.drop 2 rfl) ?_
    refine OS.pure rfl (fun _ => rfl) rfl ?_
    refine OS.pure rfl (fun _ => rfl) rfl ?_
    refine OS.pure rfl (fun _ => rfl) rfl ?_
    refine OS.pure rfl (fun _ => rfl) rfl ?_
    refine OS.pure rfl (fun _ => rfl) rfl ?_
    refine OS.nil ?_
    have hD5 : D'.length = 512 * 256 := hok.1
    have hbi : bs[i]? = some bs[i] := List.getElem?_eq_getElem (by omega)
    have hb256 := (bs[i]).toNat_lt
    generalize bs[i] = cb at hbi hb256
    repeat refine LS.seq ?_
    refine LS.region rfl ?_
    refine OS.pure rfl (fun _ => rfl) rfl ?_
    refine OS.pure rfl (fun _ => rfl) rfl ?_
    refine OS.pure rfl (fun _ => rfl) rfl ?_
    refine OS.pure rfl (fun _ => rfl) rfl ?_
    refine OS.pure rfl (fun _ => rfl) rfl ?_
    refine OS.pure rfl (fun _ => rfl) rfl ?_
    refine OS.at1 (j := i) (u := .int .u8 (cb.toNat : Nat)) hT2.cons.cons.cons (by simp [byteCells, hbi]) rfl rfl rfl rfl rfl rfl (fun r0 o0 row0 cs0 m0' c0 g0 => ?_)
    refine ⟨_, rfl, ?_⟩
    refine OS.read rfl (e_loadm m0' c0 rfl rfl (part_one rfl g0)) rfl ?_
    refine OS.pure rfl (e_conv rfl rfl rfl rfl (in_i64 (by omega) (by omega))) rfl ?_
    refine OS.call noGo rfl (fun _ => rfl) ((Cut_ct (s := ⟨512, D', 0, false, 0, false⟩) rfl cb.toNat (by omega)).mono ?_)
    rintro v' L' ⟨rfl, rfl⟩
    refine ⟨_, rfl, ?_⟩
    refine OS.pure rfl (fun _ => rfl) rfl ?_
    refine OS.pure rfl (fun _ => rfl) rfl ?_
    refine OS.nil ?_
    refine LS.cond rfl (fun hc => by cases hc) (fun hc => ?_)
    refine LS.skip ?_
    repeat refine LS.seq ?_
    refine LS.region rfl ?_
    refine OS.pure rfl (fun _ => rfl) rfl ?_
    refine OS.pure rfl (fun _ => rfl) rfl ?_
    refine OS.nil ?_
    have o5 : Dk.ok ⟨512, D', 0, true, cb.toNat, false⟩ := ok_of hD5 (by decide) (by decide) (by decide) (by omega)
    rcases hcls with ⟨hid, hpl⟩ | hpd
    · repeat refine LS.seq ?_
      refine LS.region rfl ?_
      refine OS.pure rfl (fun _ => rfl) rfl ?_
      refine OS.call noGo rfl (fun _ => rfl) ((Open_idle o5 rfl hid).mono ?_)
      rintro v' L' ⟨rj', Y', rfl, rfl⟩
      refine ⟨_, rfl, ?_⟩
      refine OS.sub (Sub.drop 0 rfl) ?_
      refine OS.sub (Sub.cons' (Sub.cons' Sub.mid)) ?_
      refine OS.pure rfl (fun _ => rfl) rfl ?_
      refine OS.pure rfl (fun _ => rfl) rfl ?_
      refine OS.pure rfl (fun _ => rfl) rfl ?_
      refine OS.pure rfl (fun _ => rfl) rfl ?_
      refine OS.nil ?_
      repeat refine LS.seq ?_
      refine LS.region rfl ?_
      refine OS.pure rfl (fun _ => rfl) rfl ?_
      refine OS.pure rfl (fun _ => rfl) rfl ?_
      refine OS.pure rfl (fun _ => rfl) rfl ?_
      refine OS.skip rfl rfl ?_
      refine OS.skip rfl rfl ?_
      refine OS.skip rfl rfl ?_
      refine OS.skip rfl rfl ?_
      refine OS.skip rfl rfl ?_
      refine OS.skip rfl rfl ?_
      refine OS.skip rfl rfl ?_
      refine OS.pure rfl (fun _ => rfl) rfl ?_
      refine OS.nil ?_
      refine LS.cond rfl (fun hc => by cases hc) (fun hc => ?_)
      refine LS.skip ?_
      repeat refine LS.seq ?_
      refine LS.region rfl ?_
      refine OS.pure rfl (fun _ => rfl) rfl ?_
      refine OS.pure rfl (e_add rfl rfl rfl (in_i64 (by omega) (by omega))) rfl ?_
      refine OS.pure rfl (fun _ => rfl) rfl ?_
      refine OS.nil ?_
      exact ⟨m2 - (i + 1), by omega, i + 1, rd', rb', _, Y' ++ T, rfl, by omega, ⟨o5, rfl, (show 0 ≤ 1000 by decide), .inr ⟨rfl, hid, .inl ⟨rfl, hpl⟩⟩⟩, hT2.mono (fun p hp => List.mem_append_right _ hp), hTw.mono (fun p hp => List.mem_append_right _ hp), rfl, rfl⟩
    · obtain ⟨f, s5, hrun, os5, ns5, ws5, hf⟩ := open_cut (c := cb.toNat) hbl hD5 hpd (by omega)
      repeat refine LS.seq ?_
      refine LS.region rfl ?_
      refine OS.pure rfl (fun _ => rfl) rfl ?_
      refine OS.call noGo rfl (fun _ => rfl) ((Open_pend (ps := psc bl 2) o5 (show 0 ≤ 800000 by decide) rfl (hbl.good 2) (by rw [psc_len]; exact hlen) (fun h => hpd.1 (psc_nil.1 h)) hpd.2.1 hpd.2.2.1).mono ?_)
      rintro v' L' ⟨Y', hv⟩
      rw [hrun] at hv
      simp only at hv
      rcases hv with ⟨hf0, rj', rfl, rfl⟩ | ⟨hf0, rfl, rfl⟩
      · subst hf0
        rcases hf with ⟨_, hd5, hi5, hp5⟩ | ⟨h, _⟩
        case inr => cases h
        refine ⟨_, rfl, ?_⟩
        refine OS.sub (Sub.drop 0 rfl) ?_
        refine OS.sub (Sub.cons' (Sub.cons' Sub.mid)) ?_
        refine OS.pure rfl (fun _ => rfl) rfl ?_
        refine OS.pure rfl (fun _ => rfl) rfl ?_
        refine OS.pure rfl (fun _ => rfl) rfl ?_
        refine OS.pure rfl (fun _ => rfl) rfl ?_
        refine OS.nil ?_
        repeat refine LS.seq ?_
        refine LS.region rfl ?_
        refine OS.pure rfl (fun _ => rfl) rfl ?_
        refine OS.pure rfl (fun _ => rfl) rfl ?_
        refine OS.pure rfl (fun _ => rfl) rfl ?_
        refine OS.skip rfl rfl ?_
        refine OS.skip rfl rfl ?_
        refine OS.skip rfl rfl ?_
        refine OS.skip rfl rfl ?_
        refine OS.skip rfl rfl ?_
        refine OS.skip rfl rfl ?_
        refine OS.skip rfl rfl ?_
        refine OS.pure rfl (fun _ => rfl) rfl ?_
        refine OS.nil ?_
        refine LS.cond rfl (fun hc => by cases hc) (fun hc => ?_)
        refine LS.skip ?_
        repeat refine LS.seq ?_
        refine LS.region rfl ?_
        refine OS.pure rfl (fun _ => rfl) rfl ?_
        refine OS.pure rfl (e_add rfl rfl rfl (in_i64 (by omega) (by omega))) rfl ?_
        refine OS.pure rfl (fun _ => rfl) rfl ?_
        refine OS.nil ?_
        exact ⟨m2 - (i + 1), by omega, i + 1, rd', rb', s5, Y' ++ T, rfl, by omega, ⟨os5, ns5, ws5, .inr ⟨hd5, hi5, .inr hp5⟩⟩, hT2.mono (fun p hp => List.mem_append_right _ hp), hTw.mono (fun p hp => List.mem_append_right _ hp), rfl, rfl⟩
      · rcases hf with ⟨h, _⟩ | ⟨rfl, hd5, hp5⟩
        case inl => exact absurd h hf0
        refine ⟨_, rfl, ?_⟩
        refine OS.sub (Sub.cons' (Sub.cons' Sub.mid)) ?_
        refine OS.pure rfl (fun _ => rfl) rfl ?_
        refine OS.pure rfl (fun _ => rfl) rfl ?_
        refine OS.pure rfl (fun _ => rfl) rfl ?_
        refine OS.pure rfl (fun _ => rfl) rfl ?_
        refine OS.nil ?_
        repeat refine LS.seq ?_
        refine LS.region rfl ?_
        refine OS.pure rfl (fun _ => rfl) rfl ?_
        refine OS.pure rfl (fun _ => rfl) rfl ?_
        refine OS.pure rfl (fun _ => rfl) rfl ?_
        refine OS.pure rfl (fun _ => rfl) rfl ?_
        refine OS.pure rfl (fun _ => rfl) rfl ?_
        refine OS.pure rfl (fun _ => rfl) rfl ?_
        refine OS.pure rfl (fun _ => rfl) rfl ?_
        refine OS.call noGo rfl (fun _ => rfl) ((Dead_ct).mono ?_)
        rintro v' L' ⟨rfl, rfl⟩
        rw [hd5]
        refine ⟨_, rfl, ?_⟩
        refine OS.pure rfl (fun _ => rfl) rfl ?_
        refine OS.pure rfl (fun _ => rfl) rfl ?_
        refine OS.pure rfl (fun _ => rfl) rfl ?_
        refine OS.nil ?_
        refine LS.cond rfl (fun hc => by cases hc) (fun hc => ?_)
        refine LS.skip ?_
        repeat refine LS.seq ?_
        refine LS.region rfl ?_
        refine OS.pure rfl (fun _ => rfl) rfl ?_
        refine OS.pure rfl (e_add rfl rfl rfl (in_i64 (by omega) (by omega))) rfl ?_
        refine OS.pure rfl (fun _ => rfl) rfl ?_
        refine OS.nil ?_
        exact ⟨m2 - (i + 1), by omega, i + 1, rd', rb', s5, Y' ++ T, rfl, by omega, ⟨os5, ns5, ws5, .inl ⟨hd5, rfl, .inr hp5⟩⟩, hT2.mono (fun p hp => List.mem_append_right _ hp), hTw.mono (fun p hp => List.mem_append_right _ hp), rfl, rfl⟩
  clear hSt hT2 hTw hd2 os2 n2 wr2
  rintro a L2 ⟨rd, rb, s, T, hSt, hTw, rfl, rfl⟩
  refine LS.seq ?_
  refine LS.mid [6, 8, 9, 12, 15] (fun a L2 => ∃ rd rb s T, Sv bl e s ∧ SV 2 T w2 bl.length (gcells gs2) ∧ L2 = dk rd rb s ((rm, mp) :: T) ∧ a = [.chan none, .chan none, .chan none, .chan none, .chan none, .chan none, .bool false, .chan none, w2, .map (some rm), .chan none, .chan none, ptr rd, .chan none, .chan none, .int .i64 e, .chan none, .chan none, .chan none, .chan none, .chan none, .chan none, .chan none, .chan none, .chan none, .chan none, .chan none, .chan none, .chan none, .chan none, .chan none, .chan none, .chan none, .chan none, .chan none, .chan none, .chan none, .chan none, .chan none, .chan none, .chan none, .chan none, .chan none, .chan none, .chan none, .chan none, .chan none, .chan none, .chan none, .chan none, .chan none, .chan none, .chan none, .chan none, .chan none, .chan none, .chan none, .chan none, .chan none, .chan none, .chan none, .chan none, .chan none, .chan none, .chan none, .chan none, .chan none, .chan none, .chan none, .chan none, .chan none, .chan none, .chan none, .chan none, .chan none, .chan none, .chan none, .chan none, .chan none, .chan none, .chan none, .chan none, .chan none, .chan none, .chan none, .chan none, .chan none, .chan none, .chan none, .chan none, .chan none, .chan none, .chan none, .chan none, .chan none, .chan none, .chan none, .chan none, .chan none, .chan none, .chan none, .chan none, .chan none, .chan none, .chan none, .chan none, .chan none, .chan none, .chan none, .chan none, .chan none, .chan none, .chan none, .chan none, .chan none, .chan none, .chan none, .chan none, .chan none, .chan none, .chan none, .chan none, .chan none, .chan none, .chan none, .chan none, .chan none, .chan none, .chan none, .chan none, .chan none, .chan none, .chan none, .chan none, .chan none, .chan none, .chan none, .chan none, .chan none, .chan none, .chan none, .chan none, .chan none, .chan none, .chan none, .chan none, .chan none, .chan none, .chan none, .chan none, .chan none, .chan none, .chan none, .chan none, .chan none, .chan none, .chan none, .chan none, .chan none, .chan none, .chan none, .chan none, .chan none, .chan none, .chan none, .chan none, .chan none, .chan none, .chan none, .chan none, .chan none, .chan none, .chan none, .chan none, .chan none, .chan none, .chan none, .chan none, .chan none, .chan none, .chan none, .chan none, .chan none, .chan none, .chan none, .chan none, .chan none, .chan none, .chan none, .chan none, .chan none, .chan none, .chan none, .chan none, .chan none, .chan none, .chan none, .chan none, .chan none, .chan none, .chan none, .chan none, .chan none, .chan none, .chan none, .chan none, .chan none, .chan none, .chan none, .chan none, .chan none, .chan none, .chan none, .chan none, .chan none, .chan none, .chan none, .chan none, .chan none, .chan none, .chan none, .chan none, .chan none, .chan none, .chan none, .chan none, .chan none, .chan none, .chan none, .chan none, .chan none]) ?_ ?_
  · obtain ⟨n', D', wr', cut', left', dead'⟩ := s
    obtain ⟨hok, hn5, hwr5, hor⟩ := hSt
    simp only at hn5 hwr5 hor
    subst hn5
    repeat refine LS.seq ?_
    refine LS.region rfl ?_
    refine OS.pure rfl (fun _ => rfl) rfl ?_
    refine OS.call noGo rfl (fun _ => rfl) ((Dead_ct).mono ?_)
    rintro v' L' ⟨rfl, rfl⟩
    refine ⟨_, rfl, ?_⟩
    refine OS.nil ?_
    rcases hor with ⟨hd, he20, hcls⟩ | ⟨hd, hcls⟩
    case inr =>
      subst hd
      refine LS.cond rfl (fun hc => by cases hc) (fun hc => ?_)
      refine LS.skip ?_
      exact ⟨rd, rb, _, T, ⟨hok, rfl, hwr5, rfl, .inl hcls⟩, hTw, rfl, rfl⟩
    subst hd
    refine LS.cond rfl (fun hc => ?_) (fun hc => by cases hc)
    have o5 : Dk.ok ⟨512, D', 0, false, 0, false⟩ := ok_of hok.1 (by decide) (by decide) (by decide) (by decide)
    repeat refine LS.seq ?_
    refine LS.region rfl ?_
    refine OS.pure rfl (fun _ => rfl) rfl ?_
    refine OS.call noGo rfl (fun _ => rfl) ((Reopen_ct hok rfl).mono ?_)
    rintro v' L' ⟨rd', rb', rfl, rfl⟩
    refine ⟨_, rfl, ?_⟩
    refine OS.sub (Sub.drop 2 rfl) ?_
    refine OS.sub (Sub.drop 2 rfl) ?_
    refine OS.pure rfl (fun _ => rfl) rfl ?_
    refine OS.pure rfl (fun _ => rfl) rfl ?_
    refine OS.pure rfl (fun _ => rfl) rfl ?_
    refine OS.pure rfl (fun _ => rfl) rfl ?_
    refine OS.pure rfl (fun _ => rfl) rfl ?_
    refine OS.nil ?_
    repeat refine LS.seq ?_
    refine LS.region rfl ?_
    refine OS.pure rfl (fun _ => rfl) rfl ?_
    refine OS.pure rfl (fun _ => rfl) rfl ?_
    refine OS.nil ?_
    refine LS.cond rfl (fun hc => by cases hc) (fun hc => ?_)
    refine LS.skip ?_
    repeat refine LS.seq ?_
    refine LS.region rfl ?_
    refine OS.pure rfl (fun _ => rfl) rfl ?_
    refine OS.pure rfl (fun _ => rfl) rfl ?_
    refine OS.nil ?_
    refine ⟨rd', rb', _, T, ⟨o5, rfl, (show 0 ≤ 1000 by decide), rfl, ?_⟩, hTw, rfl, rfl⟩
    rcases hcls with ⟨hi, hp⟩ | hp
    · exact .inl ⟨hi, .inl ⟨he20, hp⟩⟩
    · exact .inr ⟨he20, rfl, hp⟩
  clear hSt hTw
  rintro a L2 ⟨rd, rb, s, T, ⟨hok, hn5, hwr5, hd5, hcls⟩, hTw, rfl, rfl⟩
  refine LS.seq ?_
  refine LS.mid [6, 8, 9, 13, 15, 21] (fun a L2 => ∃ rj rd rb s T, Sw bl e s ∧ SV 2 T w2 bl.length (gcells gs2) ∧ L2 = jn rj rd rb s ((rm, mp) :: T) ∧ a = [.chan none, .chan none, .chan none, .chan none, .chan none, .chan none, .bool false, .chan none, w2, .map (some rm), .chan none, .chan none, .chan none, ptr rj, .chan none, .int .i64 e, .chan none, .chan none, .chan none, .chan none, .chan none, .int .i64 0, .chan none, .chan none, .chan none, .chan none, .chan none, .chan none, .chan none, .chan none, .chan none, .chan none, .chan none, .chan none, .chan none, .chan none, .chan none, .chan none, .chan none, .chan none, .chan none, .chan none, .chan none, .chan none, .chan none, .chan none, .chan none, .chan none, .chan none, .chan none, .chan none, .chan none, .chan none, .chan none, .chan none, .chan none, .chan none, .chan none, .chan none, .chan none, .chan none, .chan none, .chan none, .chan none, .chan none, .chan none, .chan none, .chan none, .chan none, .chan none, .chan none, .chan none, .chan none, .chan none, .chan none, .chan none, .chan none, .chan none, .chan none, .chan none, .chan none, .chan none, .chan none, .chan none, .chan none, .chan none, .chan none, .chan none, .chan none, .chan none, .chan none, .chan none, .chan none, .chan none, .chan none, .chan none, .chan none, .chan none, .chan none, .chan none, .chan none, .chan none, .chan none, .chan none, .chan none, .chan none, .chan none, .chan none, .chan none, .chan none, .chan none, .chan none, .chan none, .chan none, .chan none, .chan none, .chan none, .chan none, .chan none, .chan none, .chan none, .chan none, .chan none, .chan none, .chan none, .chan none, .chan none, .chan none, .chan none, .chan none, .chan none, .chan none, .chan none, .chan none, .chan none, .chan none, .chan none, .chan none, .chan none, .chan none, .chan none, .chan none, .chan none, .chan none, .chan none, .chan none, .chan none, .chan none, .chan none, .chan none, .chan none, .chan none, .chan none, .chan none, .chan none, .chan none, .chan none, .chan none, .chan none, .chan none, .chan none, .chan none, .chan none, .chan none, .chan none, .chan none, .chan none, .chan none, .chan none, .chan none, .chan none, .chan none, .chan none, .chan none, .chan none, .chan none, .chan none, .chan none, .chan none, .chan none, .chan none, .chan none, .chan none, .chan none, .chan none, .chan none, .chan none, .chan none, .chan none, .chan none, .chan none, .chan none, .chan none, .chan none, .chan none, .chan none, .chan none, .chan none, .chan none, .chan none, .chan none, .chan none, .chan none, .chan none, .chan none, .chan none, .chan none, .chan none, .chan none, .chan none, .chan none, .chan none, .chan none, .chan none, .chan none, .chan none, .chan none, .chan none, .chan none, .chan none, .chan none, .chan none, .chan none, .chan none, .chan none, .chan none, .chan none, .chan none, .chan none, .chan none, .chan none]) ?_ ?_
  · rcases hcls with ⟨hi, hp⟩ | ⟨he20, hs, hp⟩
    · repeat refine LS.seq ?_
      refine LS.region rfl ?_
      refine OS.pure rfl (fun _ => rfl) rfl ?_
      refine OS.call noGo rfl (fun _ => rfl) ((Open_idle hok hd5 hi).mono ?_)
      rintro v' L' ⟨rj', Y', rfl, rfl⟩
      refine ⟨_, rfl, ?_⟩
      refine OS.sub (Sub.cons' (Sub.cons' (Sub.cons' Sub.mid))) ?_
      refine OS.pure rfl (fun _ => rfl) rfl ?_
      refine OS.pure rfl (fun _ => rfl) rfl ?_
      refine OS.pure rfl (fun _ => rfl) rfl ?_
      refine OS.pure rfl (fun _ => rfl) rfl ?_
      refine OS.pure rfl (fun _ => rfl) rfl ?_
      refine OS.nil ?_
      exact ⟨rj', rd, rb, s, Y' ++ T, ⟨hok, hn5, hd5, hp⟩, hTw.mono (fun p hp => List.mem_append_right _ hp), rfl, rfl⟩
    · obtain ⟨s5, hrun, os5, ns5, ds5, is5, ps5⟩ := open_free hbl (D := s.D) (by have := hok.1; rw [hn5] at this; exact this) hp
      rw [← hs] at hrun
      repeat refine LS.seq ?_
      refine LS.region rfl ?_
      refine OS.pure rfl (fun _ => rfl) rfl ?_
      refine OS.call noGo rfl (fun _ => rfl) ((Open_pend (ps := psc bl 2) hok (show s.wr ≤ 800000 by omega) hd5 (by rw [hn5]; exact hbl.good 2) (by rw [psc_len]; exact hlen) (fun h => hp.1 (psc_nil.1 h)) hp.2.1 hp.2.2.1).mono ?_)
      rintro v' L' ⟨Y', hv⟩
      rw [hrun] at hv
      simp only at hv
      rcases hv with ⟨_, rj', rfl, rfl⟩ | ⟨hf0, _⟩
      case inr => exact absurd rfl hf0
      refine ⟨_, rfl, ?_⟩
      refine OS.sub (Sub.cons' (Sub.cons' (Sub.cons' Sub.mid))) ?_
      refine OS.pure rfl (fun _ => rfl) rfl ?_
      refine OS.pure rfl (fun _ => rfl) rfl ?_
      refine OS.pure rfl (fun _ => rfl) rfl ?_
      refine OS.pure rfl (fun _ => rfl) rfl ?_
      refine OS.pure rfl (fun _ => rfl) rfl ?_
      refine OS.nil ?_
      exact ⟨rj', rd, rb, s5, Y' ++ T, ⟨os5, ns5, ds5, .inr ps5⟩, hTw.mono (fun p hp => List.mem_append_right _ hp), rfl, rfl⟩
  clear hok hn5 hwr5 hd5 hcls hTw
  rintro a L2 ⟨rj, rd, rb, s, T, ⟨hok, hn5, hd5, hpl⟩, hTw, rfl, rfl⟩
  subst hmp
  repeat refine LS.seq ?_
  refine LS.region rfl ?_
  refine OS.pure rfl (fun _ => rfl) rfl ?_
  refine OS.pure rfl (fun _ => rfl) rfl ?_
  refine OS.pure rfl (fun _ => rfl) rfl ?_
  refine OS.skip rfl rfl ?_
  refine OS.skip rfl rfl ?_
  refine OS.pure rfl (fun _ => rfl) rfl ?_
  refine OS.nil ?_
  refine LS.cond rfl (fun hc => by cases hc) (fun hc => ?_)
  refine LS.skip ?_
  repeat refine LS.seq ?_
  refine LS.region rfl ?_
  refine OS.pure rfl (fun _ => rfl) rfl ?_
  refine OS.pure rfl (fun _ => rfl) rfl ?_
  refine OS.nil ?_
  refine LS.cond rfl (fun hc => by cases hc) (fun hc => ?_)
  refine LS.skip ?_
  repeat refine LS.seq ?_
  refine LS.region rfl ?_
  refine OS.pure rfl (fun _ => rfl) rfl ?_
  refine OS.nil ?_
  refine LS.seq ?_
  refine LS.mid [6, 8, 9, 13, 15, 22] (fun a L2 => ∃ c : UInt8, Pl s.D bl c ∧ (e = 0 → bl ≠ [] → c = 2) ∧ L2 = jn rj rd rb s ((rm, .map (ents bl 0) bl.length) :: T) ∧ a = [.chan none, .chan none, .chan none, .chan none, .chan none, .chan none, .bool false, .chan none, w2, .map (some rm), .chan none, .chan none, .chan none, ptr rj, .chan none, .int .i64 e, .chan none, .chan none, .chan none, .chan none, .chan none, .chan none, .int .u8 (c.toNat : Nat), .chan none, .chan none, .chan none, .chan none, .chan none, .chan none, .chan none, .chan none, .chan none, .chan none, .chan none, .chan none, .chan none, .chan none, .chan none, .chan none, .chan none, .chan none, .chan none, .chan none, .chan none, .chan none, .chan none, .chan none, .chan none, .chan none, .chan none, .chan none, .chan none, .chan none, .chan none, .chan none, .chan none, .chan none, .chan none, .chan none, .chan none, .chan none, .chan none, .chan none, .chan none, .chan none, .chan none, .chan none, .chan none, .chan none, .chan none, .chan none, .chan none, .chan none, .chan none, .chan none, .chan none, .chan none, .chan none, .chan none, .chan none, .chan none, .chan none, .chan none, .chan none, .chan none, .chan none, .chan none, .chan none, .chan none, .chan none, .chan none, .chan none, .chan none, .chan none, .chan none, .chan none, .chan none, .chan none, .chan none, .chan none, .chan none, .chan none, .chan none, .chan none, .chan none, .chan none, .chan none, .chan none, .chan none, .chan none, .chan none, .chan none, .chan none, .chan none, .chan none, .chan none, .chan none, .chan none, .chan none, .chan none, .chan none, .chan none, .chan none, .chan none, .chan none, .chan none, .chan none, .chan none, .chan none, .chan none, .chan none, .chan none, .chan none, .chan none, .chan none, .chan none, .chan none, .chan none, .chan none, .chan none, .chan none, .chan none, .chan none, .chan none, .chan none, .chan none, .chan none, .chan none, .chan none, .chan none, .chan none, .chan none, .chan none, .chan none, .chan none, .chan none, .chan none, .chan none, .chan none, .chan none, .chan none, .chan none, .chan none, .chan none, .chan none, .chan none, .chan none, .chan none, .chan none, .chan none, .chan none, .chan none, .chan none, .chan none, .chan none, .chan none, .chan none, .chan none, .chan none, .chan none, .chan none, .chan none, .chan none, .chan none, .chan none, .chan none, .chan none, .chan none, .chan none, .chan none, .chan none, .chan none, .chan none, .chan none, .chan none, .chan none, .chan none, .chan none, .chan none, .chan none, .chan none, .chan none, .chan none, .chan none, .chan none, .chan none, .chan none, .chan none, .chan none, .chan none, .chan none, .chan none, .chan none, .chan none, .chan none, .chan none, .chan none, .chan none, .chan none, .chan none, .chan none, .chan none, .chan none, .chan none, .chan none, .chan none, .chan none, .chan none, .chan none, .chan none, .chan none]) ?_ ?_
  · by_cases hbe : bl = []
    · have hq : (!ileB ((bl.length : Nat) : Int) 0) = false := by rw [hbe]; rfl
      have hp1 : Pl s.D bl 1 := by
        rcases hpl with ⟨_, h⟩ | h
        · exact h
        · intro j hj
          have := h j hj
          rw [if_neg (by rw [hbe]; simp)] at this ⊢
          exact this
      repeat refine LS.seq ?_
      refine LS.region rfl ?_
      refine OS.pure rfl (fun _ => rfl) rfl ?_
      refine OS.pure rfl (e_len hTw rfl rfl rfl rfl rfl) rfl ?_
      refine OS.pure rfl (e_is (fun _ => rfl) (congrArg Value.bool hq)) rfl ?_
      refine OS.pure rfl (fun _ => rfl) rfl ?_
      refine OS.skip rfl rfl ?_
      refine OS.skip rfl rfl ?_
      refine OS.skip rfl rfl ?_
      refine OS.skip rfl rfl ?_
      refine OS.skip rfl rfl ?_
      refine OS.skip rfl rfl ?_
      refine OS.pure rfl (fun _ => rfl) rfl ?_
      refine OS.nil ?_
      refine LS.cond rfl (fun hc => by cases hc) (fun hc => ?_)
      refine LS.skip ?_
      exact ⟨1, hp1, fun _ h => absurd hbe h, rfl, rfl⟩
    · have hpos : 0 < bl.length := List.length_pos_iff.2 hbe
      have hq : (!ileB ((bl.length : Nat) : Int) 0) = true := by rw [ileB_eq]; simp; omega
      have hg0 : gs2[0]? = some gs2[0] := List.getElem?_eq_getElem (by omega)
      have hgm : (gs2[0].b, gs2[0].d) ∈ psc bl 2 := by rw [← hbd2]; exact List.mem_map.2 ⟨_, List.getElem_mem (by omega), rfl⟩
      generalize gs2[0] = g at hg0 hgm
      obtain ⟨b, hb, hbg⟩ := List.mem_map.1 hgm
      have hbg : b = g.b := congrArg Prod.fst hbg
      have hr := hbl.rng b hb
      obtain ⟨j, rfl⟩ := Int.eq_ofNat_of_zero_le (show 0 ≤ b by omega)
      have hpj : plainP s.n (j : Nat) := by rw [hn5]; exact .inr ⟨by omega, by omega⟩
      have hpj5 : plainP 512 (j : Nat) := .inr ⟨by omega, by omega⟩
      repeat refine LS.seq ?_
      refine LS.region rfl ?_
      refine OS.pure rfl (fun _ => rfl) rfl ?_
      refine OS.pure rfl (e_len hTw rfl rfl rfl rfl rfl) rfl ?_
      refine OS.pure rfl (e_is (fun _ => rfl) (congrArg Value.bool hq)) rfl ?_
      refine OS.pure rfl (fun _ => rfl) rfl ?_
      refine OS.pure rfl (fun _ => rfl) rfl ?_
      refine OS.pure rfl (fun _ => rfl) rfl ?_
      refine OS.at (j := 0) hTw.cons.cons.cons.cons hpos rfl rfl rfl rfl rfl rfl (fun r0 o0 row0 cs0 m0 c0 g0 k0 => ?_)
      refine ⟨_, rfl, ?_⟩
      refine OS.pure rfl (fun _ => rfl) rfl ?_
      refine OS.read rfl (e_loadm m0 c0 rfl rfl (part_one rfl (g0 0 _ (by omega) (pc_at (gp gs2) 0 0 _ (gp_get hg0) (by omega))))) rfl ?_
      simp only [← hbg]
      refine OS.call noGo rfl (fun _ => rfl) ((holds_ct hok hd5 j hpj 2).mono ?_)
      rintro v' L' ⟨rfl, rfl⟩
      rcases hpl with ⟨he20, hp⟩ | hp
      · have hb1 := hp j hpj5
        rw [if_pos hb] at hb1
        rw [decide_eq_false (show ¬ blk s.D j = List.replicate 256 2 by rw [hb1]; exact rep_ne)]
        refine ⟨_, rfl, ?_⟩
        refine OS.pure rfl (fun _ => rfl) rfl ?_
        refine OS.nil ?_
        refine LS.cond rfl (fun hc => by cases hc) (fun hc => ?_)
        refine LS.skip ?_
        exact ⟨1, hp, fun h => (by rw [he20] at h; exact absurd h (by decide)), rfl, rfl⟩
      · have hb1 := hp j hpj5
        rw [if_pos hb] at hb1
        rw [decide_eq_true hb1]
        refine ⟨_, rfl, ?_⟩
        refine OS.pure rfl (fun _ => rfl) rfl ?_
        refine OS.nil ?_
        refine LS.cond rfl (fun hc => ?_) (fun hc => by cases hc)
        repeat refine LS.seq ?_
        refine LS.region rfl ?_
        refine OS.pure rfl (fun _ => rfl) rfl ?_
        refine OS.nil ?_
        exact ⟨2, hp, fun _ _ => rfl, rfl, rfl⟩
  rintro a L2 ⟨c, hp, hce, rfl, rfl⟩
  refine LS.seq ?_
  refine LS.mid [6, 9, 13, 22] (fun a L2 => L2 = jn rj rd rb s ((rm, .map (ents bl 0) bl.length) :: T) ∧ a = [.chan none, .chan none, .chan none, .chan none, .chan none, .chan none, .bool false, .chan none, .chan none, .map (some rm), .chan none, .chan none, .chan none, ptr rj, .chan none, .chan none, .chan none, .chan none, .chan none, .chan none, .chan none, .chan none, .int .u8 (c.toNat : Nat), .chan none, .chan none, .chan none, .chan none, .chan none, .chan none, .chan none, .chan none, .chan none, .chan none, .chan none, .chan none, .chan none, .chan none, .chan none, .chan none, .chan none, .chan none, .chan none, .chan none, .chan none, .chan none, .chan none, .chan none, .chan none, .chan none, .chan none, .chan none, .chan none, .chan none, .chan none, .chan none, .chan none, .chan none, .chan none, .chan none, .chan none, .chan none, .chan none, .chan none, .chan none, .chan none, .chan none, .chan none, .chan none, .chan none, .chan none, .chan none, .chan none, .chan none, .chan none, .chan none, .chan none, .chan none, .chan none, .chan none, .chan none, .chan none, .chan none, .chan none, .chan none, .chan none, .chan none, .chan none, .chan none, .chan none, .chan none, .chan none, .chan none, .chan none, .chan none, .chan none, .chan none, .chan none, .chan none, .chan none, .chan none, .chan none, .chan none, .chan none, .chan none, .chan none, .chan none, .chan none, .chan none, .chan none, .chan none, .chan none, .chan none, .chan none, .chan none, .chan none, .chan none, .chan none, .chan none, .chan none, .chan none, .chan none, .chan none, .chan none, .chan none, .chan none, .chan none, .chan none, .chan none, .chan none, .chan none, .chan none, .chan none, .chan none, .chan none, .chan none, .chan none, .chan none, .chan none, .chan none, .chan none, .chan none, .chan none, .chan none, .chan none, .chan none, .chan none, .chan none, .chan none, .chan none, .chan none, .chan none, .chan none, .chan none, .chan none, .chan none, .chan none, .chan none, .chan none, .chan none, .chan none, .chan none, .chan none, .chan none, .chan none, .chan none, .chan none, .chan none, .chan none, .chan none, .chan none, .chan none, .chan none, .chan none, .chan none, .chan none, .chan none, .chan none, .chan none, .chan none, .chan none, .chan none, .chan none, .chan none, .chan none, .chan none, .chan none, .chan none, .chan none, .chan none, .chan none, .chan none, .chan none, .chan none, .chan none, .chan none, .chan none, .chan none, .chan none, .chan none, .chan none, .chan none, .chan none, .chan none, .chan none, .chan none, .chan none, .chan none, .chan none, .chan none, .chan none, .chan none, .chan none, .chan none, .chan none, .chan none, .chan none, .chan none, .chan none, .chan none, .chan none, .chan none, .chan none, .chan none, .chan none, .chan none, .chan none, .chan none, .chan none, .chan none, .chan none, .chan none]) ?_ ?_
  · rcases he with rfl | rfl
    · by_cases hbe : bl = []
      · have hq : (!ileB ((bl.length : Nat) : Int) 0) = false := by rw [hbe]; rfl
        repeat refine LS.seq ?_
        refine LS.region rfl ?_
        refine OS.pure rfl (fun _ => rfl) rfl ?_
        refine OS.pure rfl (fun _ => rfl) rfl ?_
        refine OS.pure rfl (fun _ => rfl) rfl ?_
        refine OS.pure rfl (fun _ => rfl) rfl ?_
        refine OS.pure rfl (e_len hTw rfl rfl rfl rfl rfl) rfl ?_
        refine OS.pure rfl (e_is (fun _ => rfl) (congrArg Value.bool hq)) rfl ?_
        refine OS.pure rfl (fun _ => rfl) rfl ?_
        refine OS.pure rfl (fun _ => rfl) rfl ?_
        refine OS.skip rfl rfl ?_
        refine OS.skip rfl rfl ?_
        refine OS.pure rfl (fun _ => rfl) rfl ?_
        refine OS.nil ?_
        refine LS.cond rfl (fun hc => by cases hc) (fun hc => ?_)
        refine LS.skip ?_
        exact ⟨rfl, rfl⟩
      · have hpos : 0 < bl.length := List.length_pos_iff.2 hbe
        have hq : (!ileB ((bl.length : Nat) : Int) 0) = true := by rw [ileB_eq]; simp; omega
        obtain rfl := hce rfl hbe
        repeat refine LS.seq ?_
        refine LS.region rfl ?_
        refine OS.pure rfl (fun _ => rfl) rfl ?_
        refine OS.pure rfl (fun _ => rfl) rfl ?_
        refine OS.pure rfl (fun _ => rfl) rfl ?_
        refine OS.pure rfl (fun _ => rfl) rfl ?_
        refine OS.pure rfl (e_len hTw rfl rfl rfl rfl rfl) rfl ?_
        refine OS.pure rfl (e_is (fun _ => rfl) (congrArg Value.bool hq)) rfl ?_
        refine OS.pure rfl (fun _ => rfl) rfl ?_
        refine OS.pure rfl (fun _ => rfl) rfl ?_
        refine OS.pure rfl (fun _ => rfl) rfl ?_
        refine OS.pure rfl (fun _ => rfl) rfl ?_
        refine OS.pure rfl (fun _ => rfl) rfl ?_
        refine OS.nil ?_
        refine LS.cond rfl (fun hc => by cases hc) (fun hc => ?_)
        refine LS.skip ?_
        exact ⟨rfl, rfl⟩
    · repeat refine LS.seq ?_
      refine LS.region rfl ?_
      refine OS.pure rfl (fun _ => rfl) rfl ?_
      refine OS.pure rfl (fun _ => rfl) rfl ?_
      refine OS.pure rfl (fun _ => rfl) rfl ?_
      refine OS.skip rfl rfl ?_
      refine OS.skip rfl rfl ?_
      refine OS.skip rfl rfl ?_
      refine OS.pure rfl (fun _ => rfl) rfl ?_
      refine OS.pure rfl (fun _ => rfl) rfl ?_
      refine OS.skip rfl rfl ?_
      refine OS.skip rfl rfl ?_
      refine OS.pure rfl (fun _ => rfl) rfl ?_
      refine OS.nil ?_
      refine LS.cond rfl (fun hc => by cases hc) (fun hc => ?_)
      refine LS.skip ?_
      exact ⟨rfl, rfl⟩
  rintro a L2 ⟨rfl, rfl⟩
  repeat refine LS.seq ?_
  refine LS.region rfl ?_
  refine OS.pure rfl (fun _ => rfl) rfl ?_
  refine OS.nil ?_
  repeat refine LS.seq ?_
  refine LS.block ?_
  refine LS.loopJ [6, 9, 13, 22, 23] (fun q a L' => ∃ i : Nat, q = 512 - i ∧ 122 ≤ i ∧ i ≤ 512 ∧ L' = jn rj rd rb s ((rm, .map (ents bl 0) bl.length) :: T) ∧
    a = [.chan none, .chan none, .chan none, .chan none, .chan none, .chan none, .bool false, .chan none, .chan none, .map (some rm), .chan none, .chan none, .chan none, ptr rj, .chan none, .chan none, .chan none, .chan none, .chan none, .chan none, .chan none, .chan none, .int .u8 (c.toNat : Nat), .int .i64 (i : Nat), .chan none, .chan none, .chan none, .chan none, .chan none, .chan none, .chan none, .chan none, .chan none, .chan none, .chan none, .chan none, .chan none, .chan none, .chan none, .chan none, .chan none, .chan none, .chan none, .chan none, .chan none, .chan none, .chan none, .chan none, .chan none, .chan none, .chan none, .chan none, .chan none, .chan none, .chan none, .chan none, .chan none, .chan none, .chan none, .chan none, .chan none, .chan none, .chan none, .chan none, .chan none, .chan none, .chan none, .chan none, .chan none, .chan none, .chan none, .chan none, .chan none, .chan none, .chan none, .chan none, .chan none, .chan none, .chan none, .chan none, .chan none, .chan none, .chan none, .chan none, .chan none, .chan none, .chan none, .chan none, .chan none, .chan none, .chan none, .chan none, .chan none, .chan none, .chan none, .chan none, .chan none, .chan none, .chan none, .chan none, .chan none, .chan none, .chan none, .chan none, .chan none, .chan none, .chan none, .chan none, .chan none, .chan none, .chan none, .chan none, .chan none, .chan none, .chan none, .chan none, .chan none, .chan none, .chan none, .chan none, .chan none, .chan none, .chan none, .chan none, .chan none, .chan none, .chan none, .chan none, .chan none, .chan none, .chan none, .chan none, .chan none, .chan none, .chan none, .chan none, .chan none, .chan none, .chan none, .chan none, .chan none, .chan none, .chan none, .chan none, .chan none, .chan none, .chan none, .chan none, .chan none, .chan none, .chan none, .chan none, .chan none, .chan none, .chan none, .chan none, .chan none, .chan none, .chan none, .chan none, .chan none, .chan none, .chan none, .chan none, .chan none, .chan none, .chan none, .chan none, .chan none, .chan none, .chan none, .chan none, .chan none, .chan none, .chan none, .chan none, .chan none, .chan none, .chan none, .chan none, .chan none, .chan none, .chan none, .chan none, .chan none, .chan none, .chan none, .chan none, .chan none, .chan none, .chan none, .chan none, .chan none, .chan none, .chan none, .chan none, .chan none, .chan none, .chan none, .chan none, .chan none, .chan none, .chan none, .chan none, .chan none, .chan none, .chan none, .chan none, .chan none, .chan none, .chan none, .chan none, .chan none, .chan none, .chan none, .chan none, .chan none, .chan none, .chan none, .chan none, .chan none, .chan none, .chan none, .chan none, .chan none, .chan none, .chan none, .chan none, .chan none, .chan none, .chan none]) (n := 390) rfl ⟨122, rfl, by omega, by omega, rfl, rfl⟩ ?_
  rintro q a L' ⟨i, rfl, hi1, hi2, rfl, rfl⟩
  repeat refine LS.seq ?_
  refine LS.region rfl ?_
  refine OS.pure rfl (fun _ => rfl) rfl ?_
  refine OS.pure rfl (fun _ => rfl) rfl ?_
  refine OS.nil ?_
  repeat refine LS.seq ?_
  refine LS.cond rfl (fun hc => ?_) (fun hc => ?_)
  · have hc : (i : Int) < (512 : Nat) := lt_of hc
    have hpi5 : plainP 512 (i : Nat) := .inr ⟨by omega, by omega⟩
    have hpi : plainP s.n (i : Nat) := by rw [hn5]; exact hpi5
    have hblk := hp i hpi5
    refine LS.skip ?_
    repeat refine LS.seq ?_
    refine LS.block ?_
    repeat refine LS.seq ?_
    refine LS.region rfl ?_
    refine OS.pure rfl (fun _ => rfl) rfl ?_
    refine OS.nil ?_
    have hfe := find_ents ((i : Nat) : Int) (bs := bl) (k := 0) (i := 0)
    rcases hfe with ⟨hin2, j, hfj⟩ | ⟨hnew, hf0⟩
    · rw [if_pos hin2] at hblk
      repeat refine LS.seq ?_
      refine LS.region rfl ?_
      refine OS.pure rfl (fun _ => rfl) rfl ?_
      refine OS.pure rfl (fun _ => rfl) rfl ?_
      refine OS.read rfl (e_lookup 3 (v := .int .i64 1) rfl rfl rfl rfl rfl rfl (by rw [hfj]; rfl)) rfl ?_
      refine OS.pure rfl (fun _ => rfl) rfl ?_
      refine OS.nil ?_
      refine LS.cond rfl (fun hc => ?_) (fun hc => by cases hc)
      repeat refine LS.seq ?_
      refine LS.region rfl ?_
      refine OS.pure rfl (fun _ => rfl) rfl ?_
      refine OS.pure rfl (fun _ => rfl) rfl ?_
      refine OS.nil ?_
      repeat refine LS.seq ?_
      refine LS.region rfl ?_
      refine OS.pure rfl (fun _ => rfl) rfl ?_
      refine OS.pure rfl (fun _ => rfl) rfl ?_
      refine OS.pure rfl (fun _ => rfl) rfl ?_
      refine OS.call noGo rfl (fun _ => rfl) ((holds_ct hok hd5 i hpi c).mono ?_)
      rintro v' L' ⟨rfl, rfl⟩
      rw [decide_eq_true hblk]
      refine ⟨_, rfl, ?_⟩
      refine OS.pure rfl (fun _ => rfl) rfl ?_
      refine OS.nil ?_
      refine LS.cond rfl (fun hc => by cases hc) (fun hc => ?_)
      refine LS.skip ?_
      repeat refine LS.seq ?_
      refine LS.region rfl ?_
      refine OS.pure rfl (fun _ => rfl) rfl ?_
      refine OS.pure rfl (e_add rfl rfl rfl (in_i64 (by omega) (by omega))) rfl ?_
      refine OS.pure rfl (fun _ => rfl) rfl ?_
      refine OS.nil ?_
      exact ⟨512 - (i + 1), by omega, i + 1, rfl, by omega, by omega, rfl, rfl⟩
    · rw [if_neg hnew] at hblk
      repeat refine LS.seq ?_
      refine LS.region rfl ?_
      refine OS.pure rfl (fun _ => rfl) rfl ?_
      refine OS.pure rfl (fun _ => rfl) rfl ?_
      refine OS.read rfl (e_lookup 3 (v := .int .i64 0) rfl rfl rfl rfl rfl rfl (by rw [hf0]; rfl)) rfl ?_
      refine OS.pure rfl (fun _ => rfl) rfl ?_
      refine OS.nil ?_
      refine LS.cond rfl (fun hc => by cases hc) (fun hc => ?_)
      refine LS.skip ?_
      repeat refine LS.seq ?_
      refine LS.region rfl ?_
      refine OS.pure rfl (fun _ => rfl) rfl ?_
      refine OS.pure rfl (fun _ => rfl) rfl ?_
      refine OS.pure rfl (fun _ => rfl) rfl ?_
      refine OS.call noGo rfl (fun _ => rfl) ((holds_ct hok hd5 i hpi 0).mono ?_)
      rintro v' L' ⟨rfl, rfl⟩
      rw [decide_eq_true hblk]
      refine ⟨_, rfl, ?_⟩
      refine OS.pure rfl (fun _ => rfl) rfl ?_
      refine OS.nil ?_
      refine LS.cond rfl (fun hc => by cases hc) (fun hc => ?_)
      refine LS.skip ?_
      repeat refine LS.seq ?_
      refine LS.region rfl ?_
      refine OS.pure rfl (fun _ => rfl) rfl ?_
      refine OS.pure rfl (e_add rfl rfl rfl (in_i64 (by omega) (by omega))) rfl ?_
      refine OS.pure rfl (fun _ => rfl) rfl ?_
      refine OS.nil ?_
      exact ⟨512 - (i + 1), by omega, i + 1, rfl, by omega, by omega, rfl, rfl⟩
  have hb0 : ((0 : Nat) : Int) ∉ bl := fun h => by have := hbl.rng _ h; omega
  have hblk := hp 0 (.inl rfl)
  rw [if_neg hb0] at hblk
  refine LS.exit ?_
  repeat refine LS.seq ?_
  refine LS.region rfl ?_
  refine OS.pure rfl (fun _ => rfl) rfl ?_
  refine OS.call noGo rfl (fun _ => rfl) ((holds_ct hok hd5 0 (.inl rfl) 0).mono ?_)
  rintro v' L' ⟨rfl, rfl⟩
  rw [decide_eq_true hblk]
  refine ⟨_, rfl, ?_⟩
  refine OS.pure rfl (fun _ => rfl) rfl ?_
  refine OS.nil ?_
  refine LS.ret ⟨_, fun _ _ => rfl, ?_⟩
  rfl
end Go.Proofs.Ythfgjedcmhllfaa
