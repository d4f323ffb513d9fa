/- Layer 4: JournalPlays: a step's group. -/
import Derived.Test.YthfgjedcmhllfaaJq
namespace Go.Am
variable {X Y G A B : RL} {x : Nat × ARow} {P : Program} {o : Oper} {a : Slots} {xo yo : Operand} {t z : TypeId}
theorem Sub.swap : Sub (A ++ (Y ++ G)) (Y ++ (A ++ G)) := ⟨[], by
  rw [List.append_nil]
  exact List.perm_append_comm_assoc Y A G⟩
theorem Sub.con (s : Sub A B) : Sub (x :: A) (x :: B) := by
  obtain ⟨M, hM⟩ := s
  exact ⟨M, hM.cons x⟩
theorem Sub.front {X1 X2 Zg Zm L : RL} : Sub (Zg ++ ((X1 ++ (X2 ++ Zm)) ++ L)) (X1 ++ (X2 ++ (Zg ++ (Zm ++ L)))) := ⟨[], by
  have := List.perm_append_comm_assoc (X1 ++ X2) Zg (Zm ++ L)
  simpa [List.append_assoc] using this⟩
theorem e_add8 {c d : UInt8} (ho : o.op = .binOp .add t xo yo z) (hx : aev a xo = some (.int .u8 (c.toNat : Nat))) (hy : aev a yo = some (.int .u8 (d.toNat : Nat))) : ∀ h, opB P a o h = some (.val (.int .u8 ((c + d).toNat : Nat)) h) := by
  intro h
  have e : wrapB .u8 ((c.toNat : Int) + (d.toNat : Int)) = ((c + d).toNat : Nat) := by rw [wrapB_eq, IntKind.wrap_u8]; simp
  simp only [opB, ho, hx, hy, eqOk, binB, if_true, e, ret]
end Go.Am
namespace Go.Proofs.Ythfgjedcmhllfaa
open Go.Am
set_option linter.unusedVariables false
set_option maxRecDepth 20000

abbrev r256 (c : UInt8) : List UInt8 := List.replicate 256 c
/-- How many bytes the i-th block of a step has. -/
def gsz (od : Bool) (n i : Nat) : Nat := if od = true ∧ i + 1 = n then 255 else 256
theorem gsz_le {od : Bool} {n i : Nat} : 255 ≤ gsz od n i ∧ gsz od n i ≤ 256 := by unfold gsz; split <;> omega
def grpE (zs : List Int) (fl : UInt8) (od : Bool) (i : Nat) (z : Int) : Int × List UInt8 := (z, (r256 (fl + UInt8.ofNat i)).take (gsz od zs.length i))
/-- What a step writes. -/
def grp (zs : List Int) (fl : UInt8) (od : Bool) (k : Nat) : List (Int × List UInt8) := (zs.take k).zipIdx.map fun p => grpE zs fl od p.2 p.1
theorem grp_succ {zs : List Int} {fl : UInt8} {od : Bool} {k : Nat} {z : Int} (h : zs[k]? = some z) : grp zs fl od (k + 1) = grp zs fl od k ++ [grpE zs fl od k z] := by
  have hk : k < zs.length := (List.getElem?_eq_some_iff.1 h).1
  unfold grp
  rw [List.take_add_one, h, List.zipIdx_append, List.map_append]
  simp [List.length_take, Nat.min_eq_left (Nat.le_of_lt hk)]
theorem grp_len {zs : List Int} {fl : UInt8} {od : Bool} {k : Nat} (h : k ≤ zs.length) : (grp zs fl od k).length = k := by simp [grp]; omega
theorem take_r {c : UInt8} {m : Nat} (h : m ≤ 256) : ((r256 c).take m).length = m := by simp; omega
theorem gcells_appR {gs : List Gw} {g : Gw} : gcells (gs ++ [g]) = gcells gs ++ [.int .i64 g.b, g.v] := by
  unfold gcells gp; rw [List.map_append, pc_append]; rfl
theorem bd_appR {gs : List Gw} {g : Gw} : bd (gs ++ [g]) = bd gs ++ [(g.b, g.d)] := by simp [bd]

/-- The rows of a group's bytes, in the group's order. -/
def RowsOf (Zg : RL) (gs : List Gw) : Prop := Zg.length = gs.length ∧ ∀ (k : Nat) (g : Gw), gs[k]? = some g → ∃ ra c, g.v = .slice (some ⟨ra, 0, none⟩) g.d.length 256 ∧ g.d = (r256 c).take g.d.length ∧ g.d.length ≤ 256 ∧ Zg[k]? = some (ra, .cells 5 (byteCells (r256 c)))
theorem RowsOf.nil : RowsOf [] [] := ⟨rfl, fun k g h => by simp at h⟩
theorem RowsOf.add {Zg : RL} {gs : List Gw} {b : Int} {ra m : Nat} {c : UInt8} (h : RowsOf Zg gs) (hm : m ≤ 256) : RowsOf (Zg ++ [(ra, .cells 5 (byteCells (r256 c)))]) (gs ++ [⟨b, .slice (some ⟨ra, 0, none⟩) m 256, (r256 c).take m⟩]) := by
  refine ⟨by simp [h.1], fun k g hg => ?_⟩
  rw [List.getElem?_append] at hg
  split at hg
  · rename_i hk
    obtain ⟨ra', c', h1, h2, h3, h4⟩ := h.2 k g hg
    exact ⟨ra', c', h1, h2, h3, by rw [List.getElem?_append_left (by rw [h.1]; exact hk)]; exact h4⟩
  · rename_i hk
    have hkl := (List.getElem?_eq_some_iff.1 hg).1
    have hk0 : k = gs.length := by simp at hkl; omega
    subst hk0
    have := List.mem_singleton.1 (List.mem_of_getElem? hg)
    subst this
    have hl : ((r256 c).take m).length = m := take_r hm
    refine ⟨ra, c, by show Value.slice _ m 256 = Value.slice _ _ 256; rw [hl], by show _ = (r256 c).take (((r256 c).take m).length); rw [hl], by show ((r256 c).take m).length ≤ 256; rw [hl]; exact hm, ?_⟩
    rw [List.getElem?_append_right (by rw [h.1]; exact Nat.le_refl _), h.1, Nat.sub_self]
    rfl
theorem cut_r {c : UInt8} {m : Nat} (h : m ≤ 256) : Go.Am.cut (byteCells (r256 c)) 0 (m * 1) = some (byteCells ((r256 c).take m)) := by
  rw [Nat.mul_one, cut_bytes (by simp; omega), List.drop_zero]

set_option maxHeartbeats 1000000 in
theorem group_ct {L : RL} {k : UInt8} {vb : Value} {nb : Nat} {zs : List Int} {fl : UInt8} {od : Bool} {N : Int} (hv : SV 1 L vb nb (zs.map fun z => .int .i64 z)) (hnb : nb ≤ 1000) :
    CS Try.prog 32 [.agg #[.int .u8 (k.toNat : Nat), vb, .int .u8 (fl.toNat : Nat), .bool od, .int .i64 N]] L fun v L' => ∃ w1 w2 gs1 gs2 Zg W0, v = .tuple #[w1, w2] ∧ L' = Zg ++ (W0 ++ L) ∧
      SV 2 W0 w1 nb (gcells gs1) ∧ SV 2 W0 w2 nb (gcells gs2) ∧ RowsOf Zg gs1 ∧ Reads W0 gs2 ∧ bd gs1 = grp zs fl od nb ∧ bd gs2 = grp zs fl od nb := by
  have hl0 : zs.length = nb := by have := hv.len; simpa using this
  have hone : oneB vb = true := by
    rcases hv with ⟨rfl, _⟩ | ⟨_, _, _, _, _, rfl, _⟩ <;> rfl
  have hbox : ∃ c1 : List Value, c1 = [.int .u8 (k.toNat : Nat), vb, .int .u8 (fl.toNat : Nat), .bool od, .int .i64 N] := ⟨_, rfl⟩
  refine CS.mk (fn := Try.f32) rfl rfl rfl rfl ?_
  repeat refine LS.seq ?_
  refine LS.region rfl ?_
  refine OS.fresh rfl (e_new (fun _ => rfl) rfl) (fun _ => rfl) (fun ro => ?_)
  refine OS.pure rfl (fun _ => rfl) rfl ?_
  refine OS.pure rfl (fun _ => rfl) rfl ?_
  refine OS.nil ?_
  repeat refine LS.seq ?_
  refine LS.region rfl ?_
  refine OS.pure rfl (fun _ => rfl) rfl ?_
  refine OS.nil ?_
  repeat refine LS.seq ?_
  refine LS.region rfl ?_
  refine OS.pure rfl (fun _ => rfl) rfl ?_
  refine OS.nil ?_
  repeat refine LS.seq ?_
  refine LS.region rfl ?_
  refine OS.pure rfl (fun _ => rfl) rfl ?_
  refine OS.nil ?_
  repeat refine LS.seq ?_
  refine LS.block ?_
  refine LS.loopJ [1, 4, 5, 6] (fun q a L' => ∃ (i : Nat) (gs1 gs2 : List Gw) (w1 w2 : Value) (X1 X2 Zg Zm : RL), q = nb - i ∧ i ≤ nb ∧ bd gs1 = grp zs fl od i ∧ bd gs2 = grp zs fl od i ∧
    LV 65 2 w1 i (gcells gs1) X1 ∧ LV 66 2 w2 i (gcells gs2) X2 ∧ RowsOf Zg gs1 ∧ Reads Zm gs2 ∧
    L' = (ro, .cells 56 [.int .u8 (k.toNat : Nat), vb, .int .u8 (fl.toNat : Nat), .bool od, .int .i64 N]) :: (X1 ++ (X2 ++ (Zg ++ (Zm ++ L)))) ∧
    a = [.chan none, ptr ro, .chan none, .chan none, w1, w2, .int .i64 (i : Nat), .chan none, .chan none, .chan none, .chan none, .chan none, .chan none, .chan none, .chan none, .chan none, .chan none, .chan none, .chan none, .chan none, .chan none, .chan none, .chan none, .chan none, .chan none, .chan none, .chan none, .chan none, .chan none, .chan none, .chan none, .chan none, .chan none, .chan none, .chan none, .chan none, .chan none, .chan none, .chan none, .chan none, .chan none, .chan none, .chan none, .chan none, .chan none, .chan none, .chan none, .chan none, .chan none, .chan none, .chan none, .chan none, .chan none, .chan none, .chan none, .chan none, .chan none]) (n := nb) rfl ⟨0, [], [], _, _, [], [], [], [], rfl, by omega, rfl, rfl, LV.nil, LV.nil, RowsOf.nil, (fun x hx => by cases hx), rfl, rfl⟩ ?_
  rintro q a L' ⟨i, gs1, gs2, w1, w2, X1, X2, Zg, Zm, rfl, hi, hbd1, hbd2, hX1, hX2, hRg, hRm, rfl, rfl⟩
  have hg1 : gs1.length = i := by have := congrArg List.length hbd1; rwa [bd_len, grp_len (by omega)] at this
  have hg2 : gs2.length = i := by have := congrArg List.length hbd2; rwa [bd_len, grp_len (by omega)] at this
  repeat refine LS.seq ?_
  refine LS.region rfl ?_
  refine OS.pure rfl (fun _ => rfl) rfl ?_
  refine OS.pure rfl (fun _ => rfl) rfl ?_
  refine OS.read rfl (e_load 0 rfl rfl rfl rfl rfl) rfl ?_
  refine OS.pure rfl (e_len hv rfl rfl rfl rfl rfl) rfl ?_
  refine OS.pure rfl (fun _ => rfl) rfl ?_
  refine OS.nil ?_
  repeat refine LS.seq ?_
  refine LS.cond rfl (fun hc => ?_) (fun hc => ?_)
  · have hc : (i : Int) < nb := lt_of hc
    have hin : i < nb := by omega
    have hz : zs[i]? = some zs[i] := List.getElem?_eq_getElem (by omega)
    have hzc : (zs.map fun z => Value.int .i64 z)[i]? = some (.int .i64 zs[i]) := by rw [List.getElem?_map, hz]; rfl
    generalize zs[i] = z at hz hzc
    have hgs := gsz_le (od := od) (n := zs.length) (i := i)
    refine LS.skip ?_
    repeat refine LS.seq ?_
    refine LS.block ?_
    repeat refine LS.seq ?_
    refine LS.region rfl ?_
    refine OS.pure rfl (fun _ => rfl) rfl ?_
    refine OS.read rfl (e_load 0 rfl rfl rfl rfl rfl) rfl ?_
    refine OS.pure rfl (fun _ => rfl) rfl ?_
    refine OS.pure rfl (e_is (e_conv8 rfl rfl rfl rfl) (congrArg (Value.int .u8) (show (((u8of ((i : Nat) : Int)).toNat : Nat) : Int) = ((UInt8.ofNat i).toNat : Nat) by unfold u8of; simp; omega))) rfl ?_
    refine OS.pure rfl (e_add8 rfl rfl rfl) rfl ?_
    refine OS.call noGo rfl (fun _ => rfl) ((full4_ct (fl + UInt8.ofNat i)).mono ?_)
    rintro v L' ⟨ra, rfl, rfl⟩
    generalize hcc : fl + UInt8.ofNat i = cc
    refine ⟨_, rfl, ?_⟩
    refine OS.pure rfl (fun _ => rfl) rfl ?_
    refine OS.nil ?_
    refine LS.seq ?_
    refine LS.mid [1, 4, 5, 6, 7] (fun a L2 => L2 = (ra, .cells 5 (byteCells (r256 cc))) :: (ro, .cells 56 [.int .u8 (k.toNat : Nat), vb, .int .u8 (fl.toNat : Nat), .bool od, .int .i64 N]) :: (X1 ++ (X2 ++ (Zg ++ (Zm ++ L)))) ∧
      a = [.chan none, ptr ro, .chan none, .chan none, w1, w2, .int .i64 (i : Nat), .slice (some ⟨ra, 0, none⟩) (gsz od zs.length i) 256, .chan none, .chan none, .chan none, .chan none, .chan none, .chan none, .chan none, .chan none, .chan none, .chan none, .chan none, .chan none, .chan none, .chan none, .chan none, .chan none, .chan none, .chan none, .chan none, .chan none, .chan none, .chan none, .chan none, .chan none, .chan none, .chan none, .chan none, .chan none, .chan none, .chan none, .chan none, .chan none, .chan none, .chan none, .chan none, .chan none, .chan none, .chan none, .chan none, .chan none, .chan none, .chan none, .chan none, .chan none, .chan none, .chan none, .chan none, .chan none, .chan none]) ?_ ?_
    · cases od with
      | false =>
        have hg : gsz false zs.length i = 256 := by unfold gsz; rw [if_neg (by simp)]
        rw [hg]
        repeat refine LS.seq ?_
        refine LS.region rfl ?_
        refine OS.pure rfl (fun _ => rfl) rfl ?_
        refine OS.read rfl (e_load 1 rfl rfl rfl rfl rfl) rfl ?_
        refine OS.pure rfl (fun _ => rfl) rfl ?_
        refine OS.skip rfl rfl ?_
        refine OS.skip rfl rfl ?_
        refine OS.skip rfl rfl ?_
        refine OS.skip rfl rfl ?_
        refine OS.skip rfl rfl ?_
        refine OS.skip rfl rfl ?_
        refine OS.pure rfl (fun _ => rfl) rfl ?_
        refine OS.nil ?_
        refine LS.cond rfl (fun hc => by cases hc) (fun hc => ?_)
        refine LS.skip ?_
        exact ⟨rfl, rfl⟩
      | true =>
        by_cases hlast : i + 1 = zs.length
        · have hg : gsz true zs.length i = 255 := by unfold gsz; rw [if_pos ⟨rfl, hlast⟩]
          have hq : ieqB ((i : Nat) : Int) ((nb : Int) - 1) = true := by rw [ieqB_eq]; simp; omega
          rw [hg]
          repeat refine LS.seq ?_
          refine LS.region rfl ?_
          refine OS.pure rfl (fun _ => rfl) rfl ?_
          refine OS.read rfl (e_load 1 rfl rfl rfl rfl rfl) rfl ?_
          refine OS.pure rfl (fun _ => rfl) rfl ?_
          refine OS.pure rfl (fun _ => rfl) rfl ?_
          refine OS.pure rfl (fun _ => rfl) rfl ?_
          refine OS.read rfl (e_load 1 rfl rfl rfl rfl rfl) rfl ?_
          refine OS.pure rfl (e_len hv rfl rfl rfl rfl rfl) rfl ?_
          refine OS.pure rfl (e_sub rfl rfl rfl (in_i64 (by omega) (by omega))) rfl ?_
          refine OS.pure rfl (e_is (fun _ => rfl) (congrArg Value.bool hq)) rfl ?_
          refine OS.pure rfl (fun _ => rfl) rfl ?_
          refine OS.nil ?_
          refine LS.cond rfl (fun hc => ?_) (fun hc => by cases hc)
          repeat refine LS.seq ?_
          refine LS.region rfl ?_
          refine OS.pure rfl (fun _ => rfl) rfl ?_
          refine OS.pure rfl (fun _ => rfl) rfl ?_
          refine OS.pure rfl (fun _ => rfl) rfl ?_
          refine OS.nil ?_
          exact ⟨rfl, rfl⟩
        · have hg : gsz true zs.length i = 256 := by unfold gsz; rw [if_neg (by simp [hlast])]
          have hq : ieqB ((i : Nat) : Int) ((nb : Int) - 1) = false := by rw [ieqB_eq]; simp; omega
          rw [hg]
          repeat refine LS.seq ?_
          refine LS.region rfl ?_
          refine OS.pure rfl (fun _ => rfl) rfl ?_
          refine OS.read rfl (e_load 1 rfl rfl rfl rfl rfl) rfl ?_
          refine OS.pure rfl (fun _ => rfl) rfl ?_
          refine OS.pure rfl (fun _ => rfl) rfl ?_
          refine OS.pure rfl (fun _ => rfl) rfl ?_
          refine OS.read rfl (e_load 1 rfl rfl rfl rfl rfl) rfl ?_
          refine OS.pure rfl (e_len hv rfl rfl rfl rfl rfl) rfl ?_
          refine OS.pure rfl (e_sub rfl rfl rfl (in_i64 (by omega) (by omega))) rfl ?_
          refine OS.pure rfl (e_is (fun _ => rfl) (congrArg Value.bool hq)) rfl ?_
          refine OS.pure rfl (fun _ => rfl) rfl ?_
          refine OS.nil ?_
          refine LS.cond rfl (fun hc => by cases hc) (fun hc => ?_)
          refine LS.skip ?_
          exact ⟨rfl, rfl⟩
    rintro a L2 ⟨rfl, rfl⟩
    generalize hgz : gsz od zs.length i = sz at hgs
    have hmemL : ∀ {p q : Nat × ARow}, ∀ y, y ∈ L → y ∈ (p :: q :: (X1 ++ (X2 ++ (Zg ++ (Zm ++ L)))) : RL) := fun {p q} y hy => List.mem_cons_of_mem _ (List.mem_cons_of_mem _ (List.mem_append_right _ (List.mem_append_right _ (List.mem_append_right _ (List.mem_append_right _ hy)))))
    repeat refine LS.seq ?_
    refine LS.region rfl ?_
    refine OS.pure rfl (fun _ => rfl) rfl ?_
    refine OS.pure rfl (fun _ => rfl) rfl ?_
    refine OS.read rfl (e_load 1 rfl rfl rfl rfl rfl) rfl ?_
    refine OS.pure rfl (fun _ => rfl) rfl ?_
    refine OS.at1 (j := i) (u := .int .i64 z) (hv.mono hmemL) hzc rfl rfl rfl rfl rfl rfl (fun r0 o0 row0 cs0 m0 c0 g0 => ?_)
    refine ⟨_, rfl, ?_⟩
    refine OS.read rfl (e_loadm m0 c0 rfl rfl (part_one rfl g0)) rfl ?_
    refine OS.pure rfl (fun _ => rfl) rfl ?_
    refine OS.pure rfl (fun _ => rfl) rfl ?_
    refine OS.fresh rfl (e_new (fun _ => rfl) rfl) (fun _ => rfl) (fun rz => ?_)
    refine OS.fresh rfl (e_appendLV [(rz, _), (ra, _), (ro, _)] (m := 1) (sz := 2) (bts := 32) hX1 (SV.row (sz := 2) (n := 1) (cs := [.int .i64 z, .slice (some ⟨ra, 0, none⟩) sz 256]) (List.mem_cons_self ..) rfl) (by omega) rfl rfl rfl rfl (by omega) (by omega)) (fun _ => rfl) (fun rn => ?_)
    refine OS.sub (Sub.drop 1 rfl) ?_
    refine OS.pure rfl (fun _ => rfl) rfl ?_
    refine OS.nil ?_
    have hmemL3 : ∀ {p q s : Nat × ARow}, ∀ y, y ∈ L → y ∈ (p :: q :: s :: (X2 ++ (Zg ++ (Zm ++ L))) : RL) := fun {p q s} y hy => List.mem_cons_of_mem _ (List.mem_cons_of_mem _ (List.mem_cons_of_mem _ (List.mem_append_right _ (List.mem_append_right _ (List.mem_append_right _ hy)))))
    repeat refine LS.seq ?_
    refine LS.drawn noGo mixed [(0, false), (1, false), (2, false), (3, false), (4, false), (5, false), (7, false), (6, true), (8, true), (9, false), (10, true), (11, true), (12, false)] rfl rfl (by kernel_rfl) ?_
    refine ODS.pure rfl rfl (fun _ => rfl) rfl ?_
    refine ODS.pure rfl rfl (fun _ => rfl) rfl ?_
    refine ODS.read rfl rfl (e_load 2 rfl rfl rfl rfl rfl) rfl ?_
    refine ODS.pure rfl rfl (fun _ => rfl) rfl ?_
    refine ODS.at1 (j := i) (u := .int .i64 z) (hv.mono hmemL3) hzc rfl rfl rfl rfl rfl rfl rfl (fun r1 o1 row1 cs1 m1 c1 g1 => ?_)
    refine ⟨_, rfl, ?_⟩
    refine ODS.read rfl rfl (e_loadm m1 c1 rfl rfl (part_one rfl g1)) rfl ?_
    refine ODS.pure rfl rfl (fun _ => rfl) rfl ?_
    refine ODS.fresh rfl rfl (e_new (fun _ => rfl) rfl) (fun _ => rfl) (fun rq => Keep.cons rfl (e_loadm (List.mem_cons_of_mem _ m1) c1 rfl rfl (part_one rfl g1)) (Keep.cons rfl (e_load 3 rfl rfl rfl rfl rfl) Keep.nil)) (fun rq => ?_)
    refine ODS.fresh rfl rfl (e_appendE (sz := 1) (bts := 1) (n := sz) (new := byteCells ((r256 cc).take sz)) (.inr ⟨ra, 0, 256, _, _, rfl, List.mem_cons_of_mem _ (List.mem_cons_of_mem _ (List.mem_cons_self ..)), rfl, cut_r (by omega)⟩) (by omega) (byteCells_one _) rfl rfl rfl (by omega) (by omega)) (fun _ => rfl) (fun rmd => Keep.cons rfl (e_loadm (List.mem_cons_of_mem _ (List.mem_cons_of_mem _ m1)) c1 rfl rfl (part_one rfl g1)) (Keep.cons rfl (e_load 4 rfl rfl rfl rfl rfl) Keep.nil)) (fun rmd => ?_)
    refine ODS.pure rfl rfl (fun _ => rfl) rfl ?_
    refine ODS.fresh rfl rfl (e_new (fun _ => rfl) rfl) (fun _ => rfl) (fun rz2 => Keep.gone rfl (Keep.gone rfl Keep.nil)) (fun rz2 => ?_)
    refine ODS.fresh rfl rfl (e_appendLV [(rz2, _), (rmd, _), (rq, _), (rn, _), (ra, _), (ro, _)] (m := 1) (sz := 2) (bts := 32) hX2 (SV.row (sz := 2) (n := 1) (cs := [.int .i64 z, .slice (some ⟨rmd, 0, none⟩) sz openCap]) (List.mem_cons_self ..) rfl) (by omega) rfl rfl rfl rfl (by omega) (by omega)) (fun _ => rfl) (fun _ => Keep.gone rfl (Keep.gone rfl Keep.nil)) (fun rn2 => ?_)
    refine ODS.pure rfl rfl (fun _ => rfl) rfl ?_
    refine ODS.nil ?_
    repeat refine LS.seq ?_
    refine LS.region rfl ?_
    refine OS.sub (Sub.drop 1 rfl) ?_
    refine OS.sub (Sub.drop 2 rfl) ?_
    refine OS.sub (Sub.pulls [1, 3, 2, 3, 4] rfl) ?_
    refine OS.sub (Sub.con (Sub.con (Sub.con (Sub.swap (Y := [_, _]))))) ?_
    refine OS.pure rfl (fun _ => rfl) rfl ?_
    refine OS.pure rfl (e_add rfl rfl rfl (in_i64 (by omega) (by omega))) rfl ?_
    refine OS.pure rfl (fun _ => rfl) rfl ?_
    refine OS.nil ?_
    have hgrp : grp zs fl od (i + 1) = grp zs fl od i ++ [(z, (r256 cc).take sz)] := by rw [grp_succ hz]; unfold grpE; rw [hcc, hgz]
    refine ⟨nb - (i + 1), by omega, i + 1, gs1 ++ [⟨z, .slice (some ⟨ra, 0, none⟩) sz 256, (r256 cc).take sz⟩], gs2 ++ [⟨z, .slice (some ⟨rmd, 0, none⟩) sz openCap, (r256 cc).take sz⟩], _, _,
      [(rn, .cells 65 (gcells gs1 ++ [.int .i64 z, .slice (some ⟨ra, 0, none⟩) sz 256]))], [(rn2, .cells 66 (gcells gs2 ++ [.int .i64 z, .slice (some ⟨rmd, 0, none⟩) sz openCap]))],
      Zg ++ [(ra, .cells 5 (byteCells (r256 cc)))], (rmd, .cells 5 (byteCells ((r256 cc).take sz))) :: Zm, rfl, by omega, ?_, ?_, ?_, ?_, hRg.add (by omega), ?_, ?_, rfl⟩
    · rw [bd_appR, hbd1, hgrp]
    · rw [bd_appR, hbd2, hgrp]
    · rw [gcells_appR]
      exact LV.row (by omega) (by rw [List.length_append, gcells_len, hg1]; simp; omega)
    · rw [gcells_appR]
      exact LV.row (by omega) (by rw [List.length_append, gcells_len, hg2]; simp; omega)
    · intro g hg
      rcases List.mem_append.1 hg with hg | hg
      · obtain ⟨m, hm⟩ := hRm g hg; exact ⟨m, hm.cons⟩
      · rw [List.mem_singleton.1 hg]
        exact ⟨sz, SV.row (List.mem_cons_self ..) (by rw [byteCells_len, take_r (by omega)]; omega)⟩
    · simp
  have hc : (nb : Int) ≤ i := nlt_of hc
  have hin : i = nb := by omega
  subst hin
  refine LS.exit ?_
  repeat refine LS.seq ?_
  refine LS.region rfl ?_
  refine OS.sub (Sub.drop 0 rfl) ?_
  refine OS.sub Sub.front ?_
  refine OS.pure rfl (fun _ => rfl) rfl ?_
  refine OS.pure rfl (fun _ => rfl) rfl ?_
  refine OS.pure rfl (fun _ => rfl) rfl ?_
  refine OS.pure rfl (fun _ => rfl) rfl ?_
  refine OS.nil ?_
  refine LS.ret ⟨_, fun _ _ => rfl, ?_⟩
  refine ⟨w1, w2, gs1, gs2, Zg, X1 ++ (X2 ++ Zm), rfl, rfl, (hX1.sv (F := [])).mono (fun p hp => ?_), (hX2.sv (F := [])).mono (fun p hp => ?_), hRg, hRm.mono (fun p hp => ?_), hbd1, hbd2⟩
  · simp only [List.append_nil] at hp; simp [hp]
  · simp only [List.append_nil] at hp; simp [hp]
  · simp [hp]
end Go.Proofs.Ythfgjedcmhllfaa
