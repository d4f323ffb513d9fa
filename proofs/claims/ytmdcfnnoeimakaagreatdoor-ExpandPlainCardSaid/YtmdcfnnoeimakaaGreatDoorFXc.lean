/- Layer 13: a text of a line at most. -/
import Derived.Test.YtmdcfnnoeimakaaGreatDoorFXb
namespace Go.Proofs.YtmdcfnnoeimakaaGreatDoor.E
open Go.Proofs.YtmdcfnnoeimakaaGreatDoor
open Go.Am Go.Xp
set_option linter.unusedVariables false
set_option linter.unusedSimpArgs false
set_option maxRecDepth 20000
set_option maxHeartbeats 4000000
attribute [local irreducible] OS LSr ODS CS YS
abbrev qRow (p v : Value) (o : Bool) : ARow := .cells 75 [p, v, .bool o]
/-- A bounded text that holds these bytes. -/
def BE (rp : Nat) (bs : W) (o : Bool) (F L : RL) : Prop :=
  (bs = [] ∧ ∃ p, (p = .pointer none ∨ p = ptr rp) ∧ L = (rp, qRow p (.slice none 0 0) o) :: F) ∨
  (bs ≠ [] ∧ ∃ r, L = (r, .cells 5 (byteCells bs)) :: (rp, qRow (ptr rp) (.slice (some ⟨r, 0, none⟩) bs.length openCap) o) :: F)
section
variable {F L : RL} {rp : Nat} {bs : W} {o : Bool}
theorem LenE_ct (hB : BE rp bs o F L) : CS Tryz.prog 32 [ptr rp] L fun v L' => v = .int .i64 (bs.length : Nat) ∧ L' = L := by
  rcases hB with ⟨rfl, p, hp, rfl⟩ | ⟨h0, r, rfl⟩
  · refine CS.mk (fn := Tryz.f32) rfl rfl rfl rfl ?_
    repeat refine LS.seq ?_
    refine LS.region rfl ?_
    refine OS.pure rfl (fun _ => rfl) rfl ?_
    refine OS.nil ?_
    repeat refine LS.seq ?_
    refine LS.region rfl ?_
    refine OS.pure rfl (fun _ => rfl) rfl ?_
    refine OS.pure rfl (fun _ => rfl) rfl ?_
    refine OS.pure rfl (fun _ => rfl) rfl ?_
    refine OS.read rfl (e_load 0 rfl rfl rfl rfl rfl) rfl ?_
    refine OS.pure rfl (fun _ => rfl) rfl ?_
    refine OS.pure rfl (fun _ => rfl) rfl ?_
    refine OS.nil ?_
    refine LS.ret ⟨_, fun _ _ => rfl, ?_⟩
    exact ⟨rfl, rfl⟩
  · refine CS.mk (fn := Tryz.f32) rfl rfl rfl rfl ?_
    repeat refine LS.seq ?_
    refine LS.region rfl ?_
    refine OS.pure rfl (fun _ => rfl) rfl ?_
    refine OS.nil ?_
    repeat refine LS.seq ?_
    refine LS.region rfl ?_
    refine OS.pure rfl (fun _ => rfl) rfl ?_
    refine OS.pure rfl (fun _ => rfl) rfl ?_
    refine OS.pure rfl (fun _ => rfl) rfl ?_
    refine OS.read rfl (e_load 1 rfl rfl rfl rfl rfl) rfl ?_
    refine OS.pure rfl (fun _ => rfl) rfl ?_
    refine OS.pure rfl (fun _ => rfl) rfl ?_
    refine OS.nil ?_
    refine LS.ret ⟨_, fun _ _ => rfl, ?_⟩
    exact ⟨rfl, rfl⟩
theorem copyE_ct {p : Value} (hp : p = .pointer none ∨ p = ptr rp) : CS Tryz.prog 44 [ptr rp] ((rp, qRow p (.slice none 0 0) o) :: F) fun v L' => L' = (rp, qRow (ptr rp) (.slice none 0 0) o) :: F := by
  rcases hp with rfl | rfl
  · refine CS.mk (fn := Tryz.f44) rfl rfl rfl rfl ?_
    repeat refine LS.seq ?_
    refine LS.region rfl ?_
    refine OS.pure rfl (fun _ => rfl) rfl ?_
    refine OS.pure rfl (fun _ => rfl) rfl ?_
    refine OS.pure rfl (fun _ => rfl) rfl ?_
    refine OS.read rfl (e_load 0 rfl rfl rfl rfl rfl) rfl ?_
    refine OS.pure rfl (fun _ => rfl) rfl ?_
    refine OS.nil ?_
    repeat refine LS.seq ?_
    refine LS.cond rfl (fun hc => ?_) (fun hc => ?_)
    · repeat refine LS.seq ?_
      refine LS.region rfl ?_
      refine OS.pure rfl (fun _ => rfl) rfl ?_
      refine OS.pure rfl (fun _ => rfl) rfl ?_
      refine OS.read rfl (e_toUnsafe 0 (n := 1) rfl rfl rfl rfl rfl rfl (by simp)) rfl ?_
      refine OS.ext (noEscape_ext (ptr rp)) rfl (fun _ => rfl) rfl ?_
      refine OS.read rfl (e_fromFirst 0 (n := 1) rfl rfl rfl rfl rfl rfl (by kernel_rfl) (by kernel_rfl) (by kernel_rfl) (by kernel_rfl)) rfl ?_
      refine OS.pure rfl (fun _ => rfl) rfl ?_
      refine OS.pure rfl (fun _ => rfl) rfl ?_
      refine OS.write rfl (e_store 0 rfl rfl rfl rfl rfl rfl rfl rfl) rfl ?_
      refine OS.nil ?_
      refine ⟨_, fun _ _ => rfl, ?_⟩
      rfl
    · cases hc
  · refine CS.mk (fn := Tryz.f44) rfl rfl rfl rfl ?_
    repeat refine LS.seq ?_
    refine LS.region rfl ?_
    refine OS.pure rfl (fun _ => rfl) rfl ?_
    refine OS.pure rfl (fun _ => rfl) rfl ?_
    refine OS.pure rfl (fun _ => rfl) rfl ?_
    refine OS.read rfl (e_load 0 rfl rfl rfl rfl rfl) rfl ?_
    refine OS.pure rfl (fun _ => rfl) rfl ?_
    refine OS.nil ?_
    repeat refine LS.seq ?_
    refine LS.cond rfl (fun hc => ?_) (fun hc => ?_)
    · cases hc
    · repeat refine LS.seq ?_
      refine LS.region rfl ?_
      refine OS.pure rfl (fun _ => rfl) rfl ?_
      refine OS.pure rfl (fun _ => rfl) rfl ?_
      refine OS.pure rfl (fun _ => rfl) rfl ?_
      refine OS.read rfl (e_load 0 rfl rfl rfl rfl rfl) rfl ?_
      refine OS.pure rfl (fun _ => rfl) rfl ?_
      refine OS.pure rfl (e_nep2 rfl rfl rfl rfl rfl) rfl ?_
      refine OS.nil ?_
      repeat refine LS.seq ?_
      refine LS.cond rfl (fun hc => ?_) (fun hc => ?_)
      · cases hc
      · refine LS.skip ⟨_, fun _ _ => rfl, ?_⟩
        rfl
theorem WriteE_ct (t : W) (hB : BE rp bs o F L) (hn : bs.length + t.length ≤ 100000000) : CS Tryz.prog 33 [ptr rp, str t] L fun v L' => BE rp (bs ++ t) o F L' := by
  rcases hB with ⟨rfl, p, hp, rfl⟩ | ⟨h0, r, rfl⟩
  · by_cases ht : t = []
    · subst ht
      refine CS.mk (fn := Tryz.f33) rfl rfl rfl rfl ?_
      repeat refine LS.seq ?_
      refine LS.region rfl ?_
      refine OS.pure rfl (fun _ => rfl) rfl ?_
      refine OS.pure rfl (fun _ => rfl) rfl ?_
      refine OS.nil ?_
      repeat refine LS.seq ?_
      refine LS.region rfl ?_
      refine OS.pure rfl (fun _ => rfl) rfl ?_
      refine OS.call noGo rfl (fun _ => rfl) ((copyE_ct hp).mono ?_)
      rintro v L' rfl
      refine ⟨_, rfl, ?_⟩
      refine OS.nil ?_
      repeat refine LS.seq ?_
      refine LS.region rfl ?_
      refine OS.pure rfl (fun _ => rfl) rfl ?_
      refine OS.pure rfl (fun _ => rfl) rfl ?_
      refine OS.pure rfl (fun _ => rfl) rfl ?_
      refine OS.pure rfl (fun _ => rfl) rfl ?_
      refine OS.read rfl (e_load 0 rfl rfl rfl rfl rfl) rfl ?_
      refine OS.pure rfl (fun _ => rfl) rfl ?_
      refine OS.pure rfl (fun _ => rfl) rfl ?_
      refine OS.pure rfl (fun _ => rfl) rfl ?_
      refine OS.pure rfl (fun _ => rfl) rfl ?_
      refine OS.write rfl (e_store 0 rfl rfl rfl rfl rfl rfl rfl rfl) rfl ?_
      refine OS.nil ?_
      repeat refine LS.seq ?_
      refine LS.region rfl ?_
      refine OS.pure rfl (fun _ => rfl) rfl ?_
      refine OS.pure rfl (fun _ => rfl) rfl ?_
      refine OS.pure rfl (fun _ => rfl) rfl ?_
      refine OS.pure rfl (fun _ => rfl) rfl ?_
      refine OS.nil ?_
      refine LS.ret ⟨_, fun _ _ => rfl, ?_⟩
      exact .inl ⟨rfl, _, .inr rfl, rfl⟩
    · have htl : 0 < t.length := by cases t with
        | nil => exact absurd rfl ht
        | cons => simp
      refine CS.mk (fn := Tryz.f33) rfl rfl rfl rfl ?_
      repeat refine LS.seq ?_
      refine LS.region rfl ?_
      refine OS.pure rfl (fun _ => rfl) rfl ?_
      refine OS.pure rfl (fun _ => rfl) rfl ?_
      refine OS.nil ?_
      repeat refine LS.seq ?_
      refine LS.region rfl ?_
      refine OS.pure rfl (fun _ => rfl) rfl ?_
      refine OS.call noGo rfl (fun _ => rfl) ((copyE_ct hp).mono ?_)
      rintro v L' rfl
      refine ⟨_, rfl, ?_⟩
      refine OS.nil ?_
      repeat refine LS.seq ?_
      refine LS.region rfl ?_
      refine OS.pure rfl (fun _ => rfl) rfl ?_
      refine OS.pure rfl (fun _ => rfl) rfl ?_
      refine OS.pure rfl (fun _ => rfl) rfl ?_
      refine OS.pure rfl (fun _ => rfl) rfl ?_
      refine OS.read rfl (e_load 0 rfl rfl rfl rfl rfl) rfl ?_
      refine OS.pure rfl (fun _ => rfl) rfl ?_
      refine OS.fresh rfl (e_append0_txt (bts := 1) rfl rfl rfl rfl (by omega) (by omega) htl) (fun _ => rfl) (fun r3 => ?_)
      refine OS.pure rfl (fun _ => rfl) rfl ?_
      refine OS.pure rfl (fun _ => rfl) rfl ?_
      refine OS.write rfl (e_store 1 rfl rfl rfl rfl rfl rfl rfl rfl) rfl ?_
      refine OS.nil ?_
      repeat refine LS.seq ?_
      refine LS.region rfl ?_
      refine OS.pure rfl (fun _ => rfl) rfl ?_
      refine OS.pure rfl (fun _ => rfl) rfl ?_
      refine OS.pure rfl (fun _ => rfl) rfl ?_
      refine OS.pure rfl (fun _ => rfl) rfl ?_
      refine OS.nil ?_
      refine LS.ret ⟨_, fun _ _ => rfl, ?_⟩
      exact .inr ⟨by simpa using ht, r3, rfl⟩
  · have key : CS Tryz.prog 44 [ptr rp] ((r, .cells 5 (byteCells bs)) :: (rp, qRow (ptr rp) (.slice (some ⟨r, 0, none⟩) bs.length openCap) o) :: F) fun v L' => L' = (r, .cells 5 (byteCells bs)) :: (rp, qRow (ptr rp) (.slice (some ⟨r, 0, none⟩) bs.length openCap) o) :: F := by
      refine CS.mk (fn := Tryz.f44) rfl rfl rfl rfl ?_
      repeat refine LS.seq ?_
      refine LS.region rfl ?_
      refine OS.pure rfl (fun _ => rfl) rfl ?_
      refine OS.pure rfl (fun _ => rfl) rfl ?_
      refine OS.pure rfl (fun _ => rfl) rfl ?_
      refine OS.read rfl (e_load 1 rfl rfl rfl rfl rfl) rfl ?_
      refine OS.pure rfl (fun _ => rfl) rfl ?_
      refine OS.nil ?_
      repeat refine LS.seq ?_
      refine LS.cond rfl (fun hc => ?_) (fun hc => ?_)
      · cases hc
      · repeat refine LS.seq ?_
        refine LS.region rfl ?_
        refine OS.pure rfl (fun _ => rfl) rfl ?_
        refine OS.pure rfl (fun _ => rfl) rfl ?_
        refine OS.pure rfl (fun _ => rfl) rfl ?_
        refine OS.read rfl (e_load 1 rfl rfl rfl rfl rfl) rfl ?_
        refine OS.pure rfl (fun _ => rfl) rfl ?_
        refine OS.pure rfl (e_nep2 rfl rfl rfl rfl rfl) rfl ?_
        refine OS.nil ?_
        repeat refine LS.seq ?_
        refine LS.cond rfl (fun hc => ?_) (fun hc => ?_)
        · cases hc
        · refine LS.skip ⟨_, fun _ _ => rfl, ?_⟩
          rfl
    refine CS.mk (fn := Tryz.f33) rfl rfl rfl rfl ?_
    repeat refine LS.seq ?_
    refine LS.region rfl ?_
    refine OS.pure rfl (fun _ => rfl) rfl ?_
    refine OS.pure rfl (fun _ => rfl) rfl ?_
    refine OS.nil ?_
    repeat refine LS.seq ?_
    refine LS.region rfl ?_
    refine OS.pure rfl (fun _ => rfl) rfl ?_
    refine OS.call noGo rfl (fun _ => rfl) ((key).mono ?_)
    rintro v L' rfl
    refine ⟨_, rfl, ?_⟩
    refine OS.nil ?_
    repeat refine LS.seq ?_
    refine LS.region rfl ?_
    refine OS.pure rfl (fun _ => rfl) rfl ?_
    refine OS.pure rfl (fun _ => rfl) rfl ?_
    refine OS.pure rfl (fun _ => rfl) rfl ?_
    refine OS.pure rfl (fun _ => rfl) rfl ?_
    refine OS.read rfl (e_load 1 rfl rfl rfl rfl rfl) rfl ?_
    refine OS.pure rfl (fun _ => rfl) rfl ?_
    refine OS.fresh rfl (e_append_txt 0 (bts := 1) (len := bs.length) rfl rfl rfl rfl (by omega) (by omega) rfl (cut_all (by rw [byteCells_len]; omega)) rfl) (fun _ => rfl) (fun r3 => ?_)
    refine OS.pure rfl (fun _ => rfl) rfl ?_
    refine OS.pure rfl (fun _ => rfl) rfl ?_
    refine OS.write rfl (e_store 1 rfl rfl rfl rfl rfl rfl rfl rfl) rfl ?_
    refine OS.nil ?_
    repeat refine LS.seq ?_
    refine LS.region rfl ?_
    refine OS.pure rfl (fun _ => rfl) rfl ?_
    refine OS.pure rfl (fun _ => rfl) rfl ?_
    refine OS.pure rfl (fun _ => rfl) rfl ?_
    refine OS.pure rfl (fun _ => rfl) rfl ?_
    refine OS.nil ?_
    refine LS.ret ⟨_, fun _ _ => rfl, ?_⟩
    refine .inr ⟨by simp [h0], r3, ?_⟩
    rw [byteCells_append, List.length_append]
theorem StringE_ct (hB : BE rp bs o F L) (hn : bs.length ≤ 100000000) : CS Tryz.prog 24 [ptr rp] L fun v L' => v = str bs ∧ ∃ Z, L' = Z ++ F := by
  rcases hB with ⟨rfl, p, hp, rfl⟩ | ⟨h0, r, rfl⟩
  · refine CS.mk (fn := Tryz.f24) rfl rfl rfl rfl ?_
    repeat refine LS.seq ?_
    refine LS.region rfl ?_
    refine OS.pure rfl (fun _ => rfl) rfl ?_
    refine OS.nil ?_
    repeat refine LS.seq ?_
    refine LS.drawn noGo mixed [(0, false), (1, false), (2, false), (3, false), (4, false), (5, false), (6, false), (7, false), (8, false), (9, false), (10, true), (11, false)] rfl rfl (by kernel_rfl) ?_
    refine ODS.pure rfl rfl (fun _ => rfl) rfl ?_
    refine ODS.pure rfl rfl (fun _ => rfl) rfl ?_
    refine ODS.pure rfl rfl (fun _ => rfl) rfl ?_
    refine ODS.read rfl rfl (e_load 0 rfl rfl rfl rfl rfl) rfl ?_
    refine ODS.pure rfl rfl (fun _ => rfl) rfl ?_
    refine ODS.pure rfl rfl (fun _ => rfl) rfl ?_
    refine ODS.pure rfl rfl (fun _ => rfl) rfl ?_
    refine ODS.pure rfl rfl (fun _ => rfl) rfl ?_
    refine ODS.read rfl rfl (e_load 0 rfl rfl rfl rfl rfl) rfl ?_
    refine ODS.pure rfl rfl (fun _ => rfl) rfl ?_
    refine ODS.write rfl rfl (fun h H => ⟨h, rfl, H⟩) rfl (Keep.gone rfl (Keep.gone rfl Keep.nil)) ?_
    refine ODS.pure rfl rfl (fun _ => rfl) rfl ?_
    refine ODS.nil ?_
    refine LS.ret ⟨_, fun _ _ => rfl, ?_⟩
    exact ⟨rfl, [_], rfl⟩
  · have h1 : 1 ≤ bs.length := by
      cases bs with
      | nil => exact absurd rfl h0
      | cons c bs => simp
    refine CS.mk (fn := Tryz.f24) rfl rfl rfl rfl ?_
    repeat refine LS.seq ?_
    refine LS.region rfl ?_
    refine OS.pure rfl (fun _ => rfl) rfl ?_
    refine OS.nil ?_
    repeat refine LS.seq ?_
    refine LS.drawn noGo mixed [(0, false), (1, false), (2, false), (3, false), (4, false), (5, false), (6, false), (7, false), (8, false), (9, false), (10, true), (11, false)] rfl rfl (by kernel_rfl) ?_
    refine ODS.pure rfl rfl (fun _ => rfl) rfl ?_
    refine ODS.pure rfl rfl (fun _ => rfl) rfl ?_
    refine ODS.pure rfl rfl (fun _ => rfl) rfl ?_
    refine ODS.read rfl rfl (e_load 1 rfl rfl rfl rfl rfl) rfl ?_
    refine ODS.pure rfl rfl (e_data rfl rfl rfl h1) rfl ?_
    refine ODS.pure rfl rfl (fun _ => rfl) rfl ?_
    refine ODS.pure rfl rfl (fun _ => rfl) rfl ?_
    refine ODS.pure rfl rfl (fun _ => rfl) rfl ?_
    refine ODS.read rfl rfl (e_load 1 rfl rfl rfl rfl rfl) rfl ?_
    refine ODS.pure rfl rfl (fun _ => rfl) rfl ?_
    refine ODS.write rfl rfl (e_unsafe 0 (n := bs.length) rfl rfl rfl rfl rfl rfl rfl rfl rfl h1 (by omega) rfl) rfl (Keep.gone rfl (Keep.gone rfl Keep.nil)) ?_
    refine ODS.pure rfl rfl (fun _ => rfl) rfl ?_
    refine ODS.nil ?_
    refine LS.ret ⟨_, fun _ _ => rfl, ?_⟩
    exact ⟨rfl, [_], rfl⟩
/-- The flag of a bounded text is another one. -/
theorem BE.row (h : BE rp bs o F L) : ∃ i x y, L[i]? = some (rp, qRow x y o) ∧ ∀ o' : Bool, ∃ L', setL L i (rp, qRow x y o') = some L' ∧ BE rp bs o' F L' := by
  rcases h with ⟨rfl, p, hp, rfl⟩ | ⟨h0, r, rfl⟩
  · exact ⟨0, _, _, rfl, fun o' => ⟨_, rfl, .inl ⟨rfl, p, hp, rfl⟩⟩⟩
  · exact ⟨1, _, _, rfl, fun o' => ⟨_, rfl, .inr ⟨h0, r, rfl⟩⟩⟩
theorem add_ct (s : W) (hB : BE rp bs o F L) (hn : bs.length ≤ 400) (hs : s.length ≤ 140737488355328) : CS Tryz.prog 22 [ptr rp, str s] L fun v L' => BE rp (if (o || decide (400 < bs.length + s.length)) then bs else bs ++ s) (o || decide (400 < bs.length + s.length)) F L' := by
  obtain ⟨i, x, y, hi, hset⟩ := hB.row
  have hm : (rp, qRow x y o) ∈ L := List.mem_of_getElem? hi
  have fin : ∀ (o' : Bool) (L1 : RL), BE rp bs o' F L1 → o' = (o || decide (400 < bs.length + s.length)) → ∃ p q, (rp, qRow p q o') ∈ L1 := fun o' L1 h _ => by
    obtain ⟨j, p, q, hj, _⟩ := h.row
    exact ⟨p, q, List.mem_of_getElem? hj⟩
  refine CS.mk (fn := Tryz.f22) rfl rfl rfl rfl ?_
  cases o with
  | true =>
    obtain ⟨L1, hL1, hB1⟩ := hset true
    obtain ⟨p, q, hm1⟩ := fin true L1 hB1 rfl
    refine yG ?_
    refine OS.read rfl (e_loadm hm rfl rfl rfl (part_one rfl rfl)) rfl ?_
    refine yG ?_
    refine OS.write rfl (e_store i (n := 1) (cs' := [x, y, .bool true]) rfl rfl rfl hi rfl rfl rfl hL1) rfl ?_
    refine yG ?_
    refine OS.read rfl (e_loadm hm1 rfl rfl rfl (part_one rfl rfl)) rfl ?_
    refine yG ?_
    refine ⟨_, fun _ _ => rfl, ?_⟩
    exact hB1
  | false =>
    by_cases hc : 400 < bs.length + s.length
    · have q1 : (!ileB ((s.length : Nat) : Int) ((400 - bs.length : Nat) : Int)) = true := by rw [ileB_eq]; simp; omega
      rw [decide_eq_true hc]
      obtain ⟨L1, hL1, hB1⟩ := hset true
      obtain ⟨p, q, hm1⟩ := fin true L1 hB1 (by simp [hc])
      refine yG ?_
      refine OS.read rfl (e_loadm hm rfl rfl rfl (part_one rfl rfl)) rfl ?_
      refine yG ?_
      refine OS.call noGo rfl (fun _ => rfl) ((LenE_ct hB).mono ?_)
      rintro v L' ⟨rfl, hL⟩
      rw [hL]
      clear hL
      refine ⟨_, rfl, ?_⟩
      refine OS.pure rfl (y_subN (m := 400) (n := bs.length) rfl rfl rfl (by omega) (in_i64 (by omega) (by omega))) rfl ?_
      refine yG ?_
      refine OS.write rfl (e_store i (n := 1) (cs' := [x, y, .bool true]) rfl rfl rfl hi rfl rfl rfl hL1) rfl ?_
      refine yG ?_
      refine OS.read rfl (e_loadm hm1 rfl rfl rfl (part_one rfl rfl)) rfl ?_
      refine yG ?_
      refine ⟨_, fun _ _ => rfl, ?_⟩
      exact hB1
    · have q1 : (!ileB ((s.length : Nat) : Int) ((400 - bs.length : Nat) : Int)) = false := by rw [ileB_eq]; simp; omega
      rw [decide_eq_false hc]
      obtain ⟨L1, hL1, hB1⟩ := hset false
      obtain ⟨p, q, hm1⟩ := fin false L1 hB1 (by simp [hc])
      refine yG ?_
      refine OS.read rfl (e_loadm hm rfl rfl rfl (part_one rfl rfl)) rfl ?_
      refine yG ?_
      refine OS.call noGo rfl (fun _ => rfl) ((LenE_ct hB).mono ?_)
      rintro v L' ⟨rfl, hL⟩
      rw [hL]
      clear hL
      refine ⟨_, rfl, ?_⟩
      refine OS.pure rfl (y_subN (m := 400) (n := bs.length) rfl rfl rfl (by omega) (in_i64 (by omega) (by omega))) rfl ?_
      refine yG ?_
      refine OS.write rfl (e_store i (n := 1) (cs' := [x, y, .bool false]) rfl rfl rfl hi rfl rfl rfl hL1) rfl ?_
      refine yG ?_
      refine OS.read rfl (e_loadm hm1 rfl rfl rfl (part_one rfl rfl)) rfl ?_
      refine yG ?_
      refine OS.call noGo rfl (fun _ => rfl) ((WriteE_ct s hB1 (by omega)).mono ?_)
      rintro v L' hB2
      refine yG ?_
      refine ⟨_, fun _ _ => rfl, ?_⟩
      exact hB2
end
end Go.Proofs.YtmdcfnnoeimakaaGreatDoor.E
