/- Layer 2: a builder of bytes. -/
import Derived.Test.YtmdcfnnoeimakaaGreatDoorWb
namespace Go.Am
set_option linter.unusedSimpArgs false
section
variable {P : Program} {o : Oper} {a : Slots} {L L₁ : RL} {x y : Operand} {t : TypeId}
/-- Two pointers to one place differ not. -/
theorem e_nep2 {el z : TypeId} {r n : Nat} (ho : o.op = .binOp .neq t x y z) (hx : aev a x = some (.pointer (some ⟨r, 0, none⟩))) (hy : aev a y = some (.pointer (some ⟨r, 0, none⟩))) (ht : P.underlying t = some (.pointer el)) (hz : sizeB P el = some n) :
    ∀ h, opB P a o h = some (.val (.bool false) h) := by
  intro h
  have hr : (Nat.beq r r && Nat.beq 0 0) = true := by simp
  have e : eqB P 100 t (.pointer (some ⟨r, 0, none⟩)) (.pointer (some ⟨r, 0, none⟩)) = some true := by
    unfold eqB
    simp only [ht, hz, hr]
  simp only [opB, ho, hx, hy, eqOk, binB, e, ret, if_true]
  rfl
end
end Go.Am
namespace Go.Proofs.YtmdcfnnoeimakaaGreatDoor
set_option linter.unusedSimpArgs false
open Go.Am
set_option linter.unusedVariables false
set_option maxRecDepth 20000

theorem noEscape_ext (v : Value) : Ext Tryz.prog 59 [v] v := by
  refine ⟨_, Extern.AbiNoEscape.same, rfl, by kernel_rfl, by kernel_rfl, by kernel_rfl, by kernel_rfl, fun ρ us w h => ?_⟩
  cases h with
  | cons h1 h2 =>
    cases h2
    exact ⟨_, rfl, h1⟩
abbrev bu (p v : Value) : ARow := .cells 73 [p, v]
/-- A builder that holds these bytes, ahead of others: nothing yet, or bytes in a row of its own. -/
def BD (b : Nat) (bs : List UInt8) (F L : RL) : Prop :=
  (bs = [] ∧ L = (b, bu (.pointer none) (.slice none 0 0)) :: F) ∨
  (bs ≠ [] ∧ ∃ r, L = (r, .cells 5 (byteCells bs)) :: (b, bu (ptr b) (.slice (some ⟨r, 0, none⟩) bs.length openCap)) :: F)
theorem WriteByte_ct {F L : RL} {b : Nat} {bs : List UInt8} (c : UInt8) (hB : BD b bs F L) (hn : bs.length ≤ 100000000) : CS Tryz.prog 140 [ptr b, .int .u8 (c.toNat : Nat)] L fun v L' => v = .nilIface ∧ BD b (bs ++ [c]) F L' := by
  have hc1 : [Value.int .u8 (c.toNat : Nat)] = byteCells [c] := rfl
  rcases hB with ⟨rfl, rfl⟩ | ⟨h0, r, rfl⟩
  · have key : CS Tryz.prog 44 [ptr b] ((b, bu (.pointer none) (.slice none 0 0)) :: F) fun v L' => L' = (b, bu (ptr b) (.slice none 0 0)) :: F := by
      refine CS.mk (fn := Tryz.f44) rfl rfl rfl rfl ?_
      repeat refine LS.seq ?_
      refine LS.region rfl ?_
      refine OS.pure rfl (fun _ => rfl) rfl ?_
      refine OS.pure rfl (fun _ => rfl) rfl ?_
      refine OS.pure rfl (fun _ => rfl) rfl ?_
      refine OS.read rfl (e_load 0 rfl rfl rfl rfl rfl) rfl ?_
      refine OS.pure rfl (fun _ => rfl) rfl ?_
      refine OS.nil ?_
      repeat refine LS.seq ?_
      refine LS.cond rfl (fun hc => ?_) (fun hc => ?_)
      · repeat refine LS.seq ?_
        refine LS.region rfl ?_
        refine OS.pure rfl (fun _ => rfl) rfl ?_
        refine OS.pure rfl (fun _ => rfl) rfl ?_
        refine OS.read rfl (e_toUnsafe 0 (n := 1) rfl rfl rfl rfl rfl rfl (by decide)) rfl ?_
        refine OS.ext (noEscape_ext (ptr b)) rfl (fun _ => rfl) rfl ?_
        refine OS.read rfl (e_fromUnsafe 0 (n := 1) rfl rfl rfl rfl rfl rfl (by kernel_rfl) (by decide)) rfl ?_
        refine OS.pure rfl (fun _ => rfl) rfl ?_
        refine OS.pure rfl (fun _ => rfl) rfl ?_
        refine OS.write rfl (e_store 0 rfl rfl rfl rfl rfl rfl rfl rfl) rfl ?_
        refine OS.nil ?_
        refine ⟨_, fun _ _ => rfl, ?_⟩
        rfl
      · cases hc
    refine CS.mk (fn := Tryz.f140) rfl rfl rfl rfl ?_
    repeat refine LS.seq ?_
    refine LS.region rfl ?_
    refine OS.pure rfl (fun _ => rfl) rfl ?_
    refine OS.nil ?_
    repeat refine LS.seq ?_
    refine LS.region rfl ?_
    refine OS.pure rfl (fun _ => rfl) rfl ?_
    refine OS.call noGo rfl (fun _ => rfl) ((key).mono ?_)
    rintro v L' rfl
    refine ⟨_, rfl, ?_⟩
    refine OS.nil ?_
    repeat refine LS.seq ?_
    refine LS.region rfl ?_
    refine OS.pure rfl (fun _ => rfl) rfl ?_
    refine OS.pure rfl (fun _ => rfl) rfl ?_
    refine OS.pure rfl (fun _ => rfl) rfl ?_
    refine OS.pure rfl (fun _ => rfl) rfl ?_
    refine OS.read rfl (e_load 0 rfl rfl rfl rfl rfl) rfl ?_
    refine OS.pure rfl (fun _ => rfl) rfl ?_
    refine OS.fresh rfl (e_new (fun _ => rfl) rfl) (fun _ => rfl) (fun r2 => ?_)
    refine OS.fresh rfl (e_appendGV [(r2, _)] (F := (b, bu (ptr b) (.slice none 0 0)) :: F) (e := 5) (m := 1) (sz := 1) (bts := 1) GV.nil (SV.row (sz := 1) (n := 1) (List.mem_cons_self ..) rfl) (by omega) rfl rfl rfl rfl (by omega) (by omega)) (fun _ => rfl) (fun r3 => ?_)
    refine OS.pure rfl (fun _ => rfl) rfl ?_
    refine OS.pure rfl (fun _ => rfl) rfl ?_
    refine OS.write rfl (e_store 2 rfl rfl rfl rfl rfl rfl rfl rfl) rfl ?_
    refine OS.sub (Sub.drop 1 rfl) ?_
    refine OS.nil ?_
    repeat refine LS.seq ?_
    refine LS.region rfl ?_
    refine OS.pure rfl (fun _ => rfl) rfl ?_
    refine OS.nil ?_
    refine LS.ret ⟨_, fun _ _ => rfl, ?_⟩
    exact ⟨rfl, .inr ⟨by simp, r3, rfl⟩⟩
  · have key : CS Tryz.prog 44 [ptr b] ((r, .cells 5 (byteCells bs)) :: (b, bu (ptr b) (.slice (some ⟨r, 0, none⟩) bs.length openCap)) :: F) fun v L' => L' = (r, .cells 5 (byteCells bs)) :: (b, bu (ptr b) (.slice (some ⟨r, 0, none⟩) bs.length openCap)) :: F := by
      refine CS.mk (fn := Tryz.f44) rfl rfl rfl rfl ?_
      repeat refine LS.seq ?_
      refine LS.region rfl ?_
      refine OS.pure rfl (fun _ => rfl) rfl ?_
      refine OS.pure rfl (fun _ => rfl) rfl ?_
      refine OS.pure rfl (fun _ => rfl) rfl ?_
      refine OS.read rfl (e_load 1 rfl rfl rfl rfl rfl) rfl ?_
      refine OS.pure rfl (fun _ => rfl) rfl ?_
      refine OS.nil ?_
      repeat refine LS.seq ?_
      refine LS.cond rfl (fun hc => ?_) (fun hc => ?_)
      · cases hc
      · repeat refine LS.seq ?_
        refine LS.region rfl ?_
        refine OS.pure rfl (fun _ => rfl) rfl ?_
        refine OS.pure rfl (fun _ => rfl) rfl ?_
        refine OS.pure rfl (fun _ => rfl) rfl ?_
        refine OS.read rfl (e_load 1 rfl rfl rfl rfl rfl) rfl ?_
        refine OS.pure rfl (fun _ => rfl) rfl ?_
        refine OS.pure rfl (e_nep2 rfl rfl rfl rfl rfl) rfl ?_
        refine OS.nil ?_
        repeat refine LS.seq ?_
        refine LS.cond rfl (fun hc => ?_) (fun hc => ?_)
        · cases hc
        · refine LS.skip ⟨_, fun _ _ => rfl, ?_⟩
          rfl
    refine CS.mk (fn := Tryz.f140) rfl rfl rfl rfl ?_
    repeat refine LS.seq ?_
    refine LS.region rfl ?_
    refine OS.pure rfl (fun _ => rfl) rfl ?_
    refine OS.nil ?_
    repeat refine LS.seq ?_
    refine LS.region rfl ?_
    refine OS.pure rfl (fun _ => rfl) rfl ?_
    refine OS.call noGo rfl (fun _ => rfl) ((key).mono ?_)
    rintro v L' rfl
    refine ⟨_, rfl, ?_⟩
    refine OS.nil ?_
    repeat refine LS.seq ?_
    refine LS.region rfl ?_
    refine OS.pure rfl (fun _ => rfl) rfl ?_
    refine OS.pure rfl (fun _ => rfl) rfl ?_
    refine OS.pure rfl (fun _ => rfl) rfl ?_
    refine OS.pure rfl (fun _ => rfl) rfl ?_
    refine OS.read rfl (e_load 1 rfl rfl rfl rfl rfl) rfl ?_
    refine OS.pure rfl (fun _ => rfl) rfl ?_
    refine OS.fresh rfl (e_new (fun _ => rfl) rfl) (fun _ => rfl) (fun r2 => ?_)
    refine OS.fresh rfl (e_appendGV [(r2, _)] (F := (b, bu (ptr b) (.slice (some ⟨r, 0, none⟩) bs.length openCap)) :: F) (e := 5) (cs := byteCells bs) (n := bs.length) (m := 1) (sz := 1) (bts := 1) (GV.of (by rw [byteCells_len]; omega)) (SV.row (sz := 1) (n := 1) (List.mem_cons_self ..) rfl) (by omega) rfl rfl rfl rfl (by omega) (by omega)) (fun _ => rfl) (fun r3 => ?_)
    refine OS.pure rfl (fun _ => rfl) rfl ?_
    refine OS.pure rfl (fun _ => rfl) rfl ?_
    refine OS.write rfl (e_store 2 rfl rfl rfl rfl rfl rfl rfl rfl) rfl ?_
    refine OS.sub (Sub.drop 1 rfl) ?_
    refine OS.nil ?_
    repeat refine LS.seq ?_
    refine LS.region rfl ?_
    refine OS.pure rfl (fun _ => rfl) rfl ?_
    refine OS.nil ?_
    refine LS.ret ⟨_, fun _ _ => rfl, ?_⟩
    refine ⟨rfl, .inr ⟨by simp, r3, ?_⟩⟩
    rw [byteCells_append, List.length_append]; rfl
theorem Len_ct {F L : RL} {b : Nat} {bs : List UInt8} (hB : BD b bs F L) : CS Tryz.prog 32 [ptr b] L fun v L' => v = .int .i64 (bs.length : Nat) ∧ L' = L := by
  rcases hB with ⟨rfl, rfl⟩ | ⟨h0, r, rfl⟩
  · refine CS.mk (fn := Tryz.f32) rfl rfl rfl rfl ?_
    repeat refine LS.seq ?_
    refine LS.region rfl ?_
    refine OS.pure rfl (fun _ => rfl) rfl ?_
    refine OS.nil ?_
    repeat refine LS.seq ?_
    refine LS.region rfl ?_
    refine OS.pure rfl (fun _ => rfl) rfl ?_
    refine OS.pure rfl (fun _ => rfl) rfl ?_
    refine OS.pure rfl (fun _ => rfl) rfl ?_
    refine OS.read rfl (e_load 0 rfl rfl rfl rfl rfl) rfl ?_
    refine OS.pure rfl (fun _ => rfl) rfl ?_
    refine OS.pure rfl (fun _ => rfl) rfl ?_
    refine OS.nil ?_
    refine LS.ret ⟨_, fun _ _ => rfl, ?_⟩
    exact ⟨rfl, rfl⟩
  · refine CS.mk (fn := Tryz.f32) rfl rfl rfl rfl ?_
    repeat refine LS.seq ?_
    refine LS.region rfl ?_
    refine OS.pure rfl (fun _ => rfl) rfl ?_
    refine OS.nil ?_
    repeat refine LS.seq ?_
    refine LS.region rfl ?_
    refine OS.pure rfl (fun _ => rfl) rfl ?_
    refine OS.pure rfl (fun _ => rfl) rfl ?_
    refine OS.pure rfl (fun _ => rfl) rfl ?_
    refine OS.read rfl (e_load 1 rfl rfl rfl rfl rfl) rfl ?_
    refine OS.pure rfl (fun _ => rfl) rfl ?_
    refine OS.pure rfl (fun _ => rfl) rfl ?_
    refine OS.nil ?_
    refine LS.ret ⟨_, fun _ _ => rfl, ?_⟩
    exact ⟨rfl, rfl⟩
theorem String_ct {F L : RL} {b : Nat} {bs : List UInt8} (hB : BD b bs F L) (hn : bs.length ≤ 100000000) : CS Tryz.prog 24 [ptr b] L fun v L' => v = str bs ∧ L' = F := by
  rcases hB with ⟨rfl, rfl⟩ | ⟨h0, r, rfl⟩
  · suffices h : CS Tryz.prog 24 [ptr b] ((b, bu (.pointer none) (.slice none 0 0)) :: F) fun v L' => v = str [] ∧ ∃ x, L' = x :: F by
      exact h.less fun v L' ⟨h1, x, h2⟩ => ⟨F, by rw [h2]; exact Sub.tail, h1, rfl⟩
    refine CS.mk (fn := Tryz.f24) rfl rfl rfl rfl ?_
    repeat refine LS.seq ?_
    refine LS.region rfl ?_
    refine OS.pure rfl (fun _ => rfl) rfl ?_
    refine OS.nil ?_
    repeat refine LS.seq ?_
    refine LS.drawn noGo mixed [(0, false), (1, false), (2, false), (3, false), (4, false), (5, false), (6, false), (7, false), (8, false), (9, false), (10, true), (11, false)] rfl rfl (by kernel_rfl) ?_
    refine ODS.pure rfl rfl (fun _ => rfl) rfl ?_
    refine ODS.pure rfl rfl (fun _ => rfl) rfl ?_
    refine ODS.pure rfl rfl (fun _ => rfl) rfl ?_
    refine ODS.read rfl rfl (e_load 0 rfl rfl rfl rfl rfl) rfl ?_
    refine ODS.pure rfl rfl (fun _ => rfl) rfl ?_
    refine ODS.pure rfl rfl (fun _ => rfl) rfl ?_
    refine ODS.pure rfl rfl (fun _ => rfl) rfl ?_
    refine ODS.pure rfl rfl (fun _ => rfl) rfl ?_
    refine ODS.read rfl rfl (e_load 0 rfl rfl rfl rfl rfl) rfl ?_
    refine ODS.pure rfl rfl (fun _ => rfl) rfl ?_
    refine ODS.write rfl rfl (fun h H => ⟨h, rfl, H⟩) rfl (Keep.gone rfl (Keep.gone rfl Keep.nil)) ?_
    refine ODS.pure rfl rfl (fun _ => rfl) rfl ?_
    refine ODS.nil ?_
    refine LS.ret ⟨_, fun _ _ => rfl, ?_⟩
    exact ⟨rfl, _, rfl⟩
  · suffices h : CS Tryz.prog 24 [ptr b] ((r, .cells 5 (byteCells bs)) :: (b, bu (ptr b) (.slice (some ⟨r, 0, none⟩) bs.length openCap)) :: F) fun v L' => v = str bs ∧ ∃ x, L' = x :: F by
      exact h.less fun v L' ⟨h1, x, h2⟩ => ⟨F, by rw [h2]; exact Sub.tail, h1, rfl⟩
    have h1 : 1 ≤ bs.length := by
      cases bs with
      | nil => exact absurd rfl h0
      | cons c bs => simp
    refine CS.mk (fn := Tryz.f24) rfl rfl rfl rfl ?_
    repeat refine LS.seq ?_
    refine LS.region rfl ?_
    refine OS.pure rfl (fun _ => rfl) rfl ?_
    refine OS.nil ?_
    repeat refine LS.seq ?_
    refine LS.drawn noGo mixed [(0, false), (1, false), (2, false), (3, false), (4, false), (5, false), (6, false), (7, false), (8, false), (9, false), (10, true), (11, false)] rfl rfl (by kernel_rfl) ?_
    refine ODS.pure rfl rfl (fun _ => rfl) rfl ?_
    refine ODS.pure rfl rfl (fun _ => rfl) rfl ?_
    refine ODS.pure rfl rfl (fun _ => rfl) rfl ?_
    refine ODS.read rfl rfl (e_load 1 rfl rfl rfl rfl rfl) rfl ?_
    refine ODS.pure rfl rfl (e_data rfl rfl rfl h1) rfl ?_
    refine ODS.pure rfl rfl (fun _ => rfl) rfl ?_
    refine ODS.pure rfl rfl (fun _ => rfl) rfl ?_
    refine ODS.pure rfl rfl (fun _ => rfl) rfl ?_
    refine ODS.read rfl rfl (e_load 1 rfl rfl rfl rfl rfl) rfl ?_
    refine ODS.pure rfl rfl (fun _ => rfl) rfl ?_
    refine ODS.write rfl rfl (e_unsafe 0 (n := bs.length) rfl rfl rfl rfl rfl rfl rfl rfl rfl h1 (by omega) rfl) rfl (Keep.gone rfl (Keep.gone rfl Keep.nil)) ?_
    refine ODS.pure rfl rfl (fun _ => rfl) rfl ?_
    refine ODS.nil ?_
    refine LS.ret ⟨_, fun _ _ => rfl, ?_⟩
    exact ⟨rfl, _, rfl⟩
end Go.Proofs.YtmdcfnnoeimakaaGreatDoor
