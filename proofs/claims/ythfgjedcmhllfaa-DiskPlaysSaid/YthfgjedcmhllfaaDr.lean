/- Layer 3: the document's disk: what a block is, what is read; are two lists alike; a step's bytes. -/
import Derived.Test.YthfgjedcmhllfaaDq
namespace Go.Proofs.Ythfgjedcmhllfaa
open Go.Am
set_option linter.unusedVariables false
set_option maxRecDepth 20000

theorem rBlock_ct {F X : RL} {rx old : Nat} {lv : Value} {s : Dk} {ws : Ws} (hX : WL lv ws X) (hw : ws.length ≤ 1000000) (h256 : ∀ w ∈ ws, w.2.length = 256) (i : Nat) :
    CS Try.prog 45 [ptr rx, .int .i64 (i : Nat)] ((rx, rfRow lv s old) :: (X ++ F)) fun v L' => ∃ r cap, v = .slice (some ⟨r, 0, none⟩) 256 cap ∧ L' = (r, .cells 5 (byteCells (lastW ws i))) :: (rx, rfRow lv s old) :: (X ++ F) := by
  have hsv : SV 2 ((rx, rfRow lv s old) :: (X ++ F)) lv ws.length (wcells ws) := hX.sv.mono (fun q hq => List.mem_cons_of_mem _ hq)
  refine CS.mk (fn := Try.f45) rfl rfl rfl rfl ?_
  repeat refine LS.seq ?_
  refine LS.region rfl ?_
  refine OS.pure rfl (fun _ => rfl) rfl ?_
  refine OS.nil ?_
  repeat refine LS.seq ?_
  refine LS.region rfl ?_
  refine OS.pure rfl (fun _ => rfl) rfl ?_
  refine OS.pure rfl (fun _ => rfl) rfl ?_
  refine OS.pure rfl (fun _ => rfl) rfl ?_
  refine OS.read rfl (e_load 0 rfl rfl rfl rfl rfl) rfl ?_
  refine OS.pure rfl (e_len hsv rfl rfl rfl rfl rfl) rfl ?_
  refine OS.pure rfl (e_sub rfl rfl rfl (in_i64 (by omega) (by omega))) rfl ?_
  refine OS.pure rfl (fun _ => rfl) rfl ?_
  refine OS.nil ?_
  repeat refine LS.seq ?_
  refine LS.block ?_
  refine LS.loopJ [0, 1, 5] (fun q a L' => ∃ k : Nat, q = k ∧ k ≤ ws.length ∧ lastW (ws.take k) i = lastW ws i ∧ L' = (rx, rfRow lv s old) :: (X ++ F) ∧
    a = [ptr rx, .int .i64 (i : Nat), .chan none, .chan none, .chan none, .int .i64 ((k : Nat) - 1), .chan none, .chan none, .chan none, .chan none, .chan none, .chan none, .chan none, .chan none, .chan none, .chan none, .chan none, .chan none, .chan none, .chan none, .chan none, .chan none, .chan none, .chan none, .chan none, .chan none, .chan none, .chan none, .chan none, .chan none, .chan none, .chan none, .chan none, .chan none, .chan none, .chan none]) (n := ws.length) rfl ⟨ws.length, rfl, Nat.le_refl _, by rw [List.take_length], rfl, rfl⟩ ?_
  rintro k a L' ⟨_, rfl, hk, hlast, rfl, rfl⟩
  repeat refine LS.seq ?_
  refine LS.region rfl ?_
  refine OS.pure rfl (fun _ => rfl) rfl ?_
  refine OS.pure rfl (fun _ => rfl) rfl ?_
  refine OS.nil ?_
  repeat refine LS.seq ?_
  refine LS.cond rfl (fun hc => ?_) (fun hc => ?_)
  · have hc : (0 : Int) ≤ (k : Nat) - 1 := ileB_iff.1 hc
    obtain ⟨j, rfl⟩ : ∃ j, k = j + 1 := ⟨k - 1, by omega⟩
    have hj : j < ws.length := by omega
    have hget : ws[j]? = some ws[j] := List.getElem?_eq_getElem hj
    have e1 : (((j + 1 : Nat) : Int) - 1) = (j : Nat) := by omega
    rw [e1]
    have htk : ws.take (j + 1) = ws.take j ++ [ws[j]] := by rw [List.take_add_one, hget]; rfl
    rw [htk, lastW_append] at hlast
    refine LS.skip ?_
    repeat refine LS.seq ?_
    refine LS.block ?_
    repeat refine LS.seq ?_
    refine LS.region rfl ?_
    refine OS.pure rfl (fun _ => rfl) rfl ?_
    refine OS.pure rfl (fun _ => rfl) rfl ?_
    refine OS.pure rfl (fun _ => rfl) rfl ?_
    refine OS.read rfl (e_load 0 rfl rfl rfl rfl rfl) rfl ?_
    refine OS.pure rfl (fun _ => rfl) rfl ?_
    refine OS.at (j := j) hsv hj rfl rfl rfl rfl rfl rfl (fun r0 o0 row0 cs0 m0 c0 g0 k0 => ?_)
    refine ⟨_, rfl, ?_⟩
    refine OS.pure rfl (fun _ => rfl) rfl ?_
    refine OS.read rfl (e_loadm m0 c0 rfl rfl (part_one rfl (g0 0 _ (by omega) (wcells_at ws j 0 _ hget (by omega))))) rfl ?_
    refine OS.pure rfl (fun _ => rfl) rfl ?_
    refine OS.pure rfl (fun _ => rfl) rfl ?_
    refine OS.nil ?_
    repeat refine LS.seq ?_
    refine LS.cond rfl (fun hq => ?_) (fun hq => ?_)
    · have hq : ((ws[j].1 : Nat) : Int) = (i : Nat) := by have := hq; rw [ieqB_eq] at this; simpa using this
      have hq : ws[j].1 = i := by omega
      rw [if_pos hq] at hlast
      have hlen := h256 _ (List.getElem_mem hj)
      repeat refine LS.seq ?_
      refine LS.region rfl ?_
      refine OS.pure rfl (fun _ => rfl) rfl ?_
      refine OS.pure rfl (fun _ => rfl) rfl ?_
      refine OS.pure rfl (fun _ => rfl) rfl ?_
      refine OS.read rfl (e_load 0 rfl rfl rfl rfl rfl) rfl ?_
      refine OS.pure rfl (fun _ => rfl) rfl ?_
      refine OS.at (j := j) hsv hj rfl rfl rfl rfl rfl rfl (fun r0 o0 row0 cs0 m0 c0 g0 k0 => ?_)
      refine ⟨_, rfl, ?_⟩
      refine OS.pure rfl (fun _ => rfl) rfl ?_
      refine OS.read rfl (e_loadm m0 c0 rfl rfl (part_one rfl (g0 1 _ (by omega) (wcells_at ws j 1 _ hget (by omega))))) rfl ?_
      refine OS.fresh rfl (e_bytes (bs := ws[j].2) rfl rfl rfl rfl rfl (by omega) rfl) (fun _ => rfl) (fun r => ?_)
      refine OS.pure rfl (fun _ => rfl) rfl ?_
      refine OS.nil ?_
      refine LS.ret ⟨_, fun _ _ => rfl, ?_⟩
      rw [← hlast, hlen]
      exact ⟨r, _, rfl, rfl⟩
    · have hq : ¬ ws[j].1 = i := by
        intro h
        have := hq; rw [ieqB_eq] at this; simp [h] at this
      rw [if_neg hq] at hlast
      refine LS.skip ?_
      repeat refine LS.seq ?_
      refine LS.region rfl ?_
      refine OS.pure rfl (fun _ => rfl) rfl ?_
      refine OS.pure rfl (e_sub rfl rfl rfl (in_i64 (by omega) (by omega))) rfl ?_
      refine OS.pure rfl (fun _ => rfl) rfl ?_
      refine OS.nil ?_
      exact ⟨j, by omega, j, rfl, by omega, hlast, rfl, rfl⟩
  have hc : ¬ (0 : Int) ≤ (k : Nat) - 1 := fun h => by rw [ileB_iff.2 h] at hc; cases hc
  have hk0 : k = 0 := by omega
  subst hk0
  refine LS.exit ?_
  repeat refine LS.seq ?_
  refine LS.region rfl ?_
  refine OS.fresh rfl (e_make (l := 256) (c := 256) rfl rfl rfl makeT_bytes (Nat.le_refl _) (by omega) (by omega)) (fun _ => rfl) (fun r => ?_)
  rw [repL_u8]
  refine OS.pure rfl (fun _ => rfl) rfl ?_
  refine OS.nil ?_
  refine LS.ret ⟨_, fun _ _ => rfl, ?_⟩
  rw [← hlast]
  exact ⟨r, _, rfl, rfl⟩

theorem rRead_ok {F X : RL} {rx old : Nat} {lv : Value} {s : Dk} {ws : Ws} (hX : WL lv ws X) (hw : ws.length ≤ 1000000) (h256 : ∀ w ∈ ws, w.2.length = 256) (hd : s.dead = false) (i : Nat) (hi : i < s.n) :
    CS Try.prog 26 [ptr rx, .int .i64 (i : Nat)] ((rx, rfRow lv s old) :: (X ++ F)) fun v L' => ∃ r cap, v = .tuple #[.slice (some ⟨r, 0, none⟩) 256 cap, .int .i64 0] ∧ L' = (r, .cells 5 (byteCells (lastW ws i))) :: (rx, rfRow lv s old) :: (X ++ F) := by
  have hb1 : (!ileB 0 ((i : Nat) : Int)) = false := by rw [ileB_eq]; simp
  have hb2 : ileB ((s.n : Nat) : Int) (i : Nat) = false := by rw [ileB_eq]; simp; omega
  refine CS.mk (fn := Try.f26) rfl rfl rfl rfl ?_
  repeat refine LS.seq ?_
  refine LS.region rfl ?_
  refine OS.pure rfl (fun _ => rfl) rfl ?_
  refine OS.pure rfl (fun _ => rfl) rfl ?_
  refine OS.nil ?_
  repeat refine LS.seq ?_
  refine LS.region rfl ?_
  refine OS.pure rfl (fun _ => rfl) rfl ?_
  refine OS.pure rfl (fun _ => rfl) rfl ?_
  refine OS.pure rfl (fun _ => rfl) rfl ?_
  refine OS.read rfl (e_load 0 rfl rfl rfl rfl rfl) rfl ?_
  refine OS.nil ?_
  rw [hd]
  refine LS.cond rfl (fun hc => by cases hc) (fun hc => ?_)
  refine LS.skip ?_
  repeat refine LS.seq ?_
  refine LS.region rfl ?_
  refine OS.pure rfl (fun _ => rfl) rfl ?_
  refine OS.pure rfl (e_is (fun _ => rfl) (congrArg Value.bool hb1)) rfl ?_
  refine OS.pure rfl (fun _ => rfl) rfl ?_
  refine OS.pure rfl (fun _ => rfl) rfl ?_
  refine OS.pure rfl (fun _ => rfl) rfl ?_
  refine OS.pure rfl (fun _ => rfl) rfl ?_
  refine OS.pure rfl (fun _ => rfl) rfl ?_
  refine OS.read rfl (e_load 0 rfl rfl rfl rfl rfl) rfl ?_
  refine OS.pure rfl (e_is (fun _ => rfl) (congrArg Value.bool hb2)) rfl ?_
  refine OS.pure rfl (fun _ => rfl) rfl ?_
  refine OS.nil ?_
  refine LS.cond rfl (fun hc => by cases hc) (fun hc => ?_)
  refine LS.skip ?_
  repeat refine LS.seq ?_
  refine LS.region rfl ?_
  refine OS.pure rfl (fun _ => rfl) rfl ?_
  refine OS.pure rfl (fun _ => rfl) rfl ?_
  refine OS.call noGo rfl (fun _ => rfl) ((rBlock_ct hX hw h256 i).mono ?_)
  rintro v L' ⟨r, cap, rfl, rfl⟩
  refine ⟨_, rfl, ?_⟩
  refine OS.pure rfl (fun _ => rfl) rfl ?_
  refine OS.pure rfl (fun _ => rfl) rfl ?_
  refine OS.nil ?_
  refine LS.ret ⟨_, fun _ _ => rfl, ?_⟩
  exact ⟨r, cap, rfl, rfl⟩
theorem rRead_dead {F : RL} {rx old : Nat} {lv : Value} {s : Dk} (hd : s.dead = true) (i : Value) :
    CS Try.prog 26 [ptr rx, i] ((rx, rfRow lv s old) :: F) fun v L' => v = .tuple #[.slice none 0 0, .int .i64 20] ∧ L' = (rx, rfRow lv s old) :: F := by
  refine CS.mk (fn := Try.f26) rfl rfl rfl rfl ?_
  repeat refine LS.seq ?_
  refine LS.region rfl ?_
  refine OS.pure rfl (fun _ => rfl) rfl ?_
  refine OS.pure rfl (fun _ => rfl) rfl ?_
  refine OS.nil ?_
  repeat refine LS.seq ?_
  refine LS.region rfl ?_
  refine OS.pure rfl (fun _ => rfl) rfl ?_
  refine OS.pure rfl (fun _ => rfl) rfl ?_
  refine OS.pure rfl (fun _ => rfl) rfl ?_
  refine OS.read rfl (e_load 0 rfl rfl rfl rfl rfl) rfl ?_
  refine OS.nil ?_
  rw [hd]
  refine LS.cond rfl (fun hc => ?_) (fun hc => by cases hc)
  repeat refine LS.seq ?_
  refine LS.region rfl ?_
  refine OS.pure rfl (fun _ => rfl) rfl ?_
  refine OS.pure rfl (fun _ => rfl) rfl ?_
  refine OS.nil ?_
  refine LS.ret ⟨_, fun _ _ => rfl, ?_⟩
  exact ⟨rfl, rfl⟩
theorem rRead_out {F : RL} {rx old : Nat} {lv : Value} {s : Dk} (hd : s.dead = false) (i : Int) (hi : ¬ (0 ≤ i ∧ i < s.n)) :
    CS Try.prog 26 [ptr rx, .int .i64 i] ((rx, rfRow lv s old) :: F) fun v L' => v = .tuple #[.slice none 0 0, .int .i64 1] ∧ L' = (rx, rfRow lv s old) :: F := by
  by_cases h0 : 0 ≤ i
  · have hb1 : (!ileB 0 i) = false := by rw [ileB_eq]; simp; omega
    have hb2 : ileB ((s.n : Nat) : Int) i = true := ileB_iff.2 (by omega)
    refine CS.mk (fn := Try.f26) rfl rfl rfl rfl ?_
    repeat refine LS.seq ?_
    refine LS.region rfl ?_
    refine OS.pure rfl (fun _ => rfl) rfl ?_
    refine OS.pure rfl (fun _ => rfl) rfl ?_
    refine OS.nil ?_
    repeat refine LS.seq ?_
    refine LS.region rfl ?_
    refine OS.pure rfl (fun _ => rfl) rfl ?_
    refine OS.pure rfl (fun _ => rfl) rfl ?_
    refine OS.pure rfl (fun _ => rfl) rfl ?_
    refine OS.read rfl (e_load 0 rfl rfl rfl rfl rfl) rfl ?_
    refine OS.nil ?_
    rw [hd]
    refine LS.cond rfl (fun hc => by cases hc) (fun hc => ?_)
    refine LS.skip ?_
    repeat refine LS.seq ?_
    refine LS.region rfl ?_
    refine OS.pure rfl (fun _ => rfl) rfl ?_
    refine OS.pure rfl (e_is (fun _ => rfl) (congrArg Value.bool hb1)) rfl ?_
    refine OS.pure rfl (fun _ => rfl) rfl ?_
    refine OS.pure rfl (fun _ => rfl) rfl ?_
    refine OS.pure rfl (fun _ => rfl) rfl ?_
    refine OS.pure rfl (fun _ => rfl) rfl ?_
    refine OS.pure rfl (fun _ => rfl) rfl ?_
    refine OS.read rfl (e_load 0 rfl rfl rfl rfl rfl) rfl ?_
    refine OS.pure rfl (e_is (fun _ => rfl) (congrArg Value.bool hb2)) rfl ?_
    refine OS.pure rfl (fun _ => rfl) rfl ?_
    refine OS.nil ?_
    refine LS.cond rfl (fun hc => ?_) (fun hc => by cases hc)
    repeat refine LS.seq ?_
    refine LS.region rfl ?_
    refine OS.pure rfl (fun _ => rfl) rfl ?_
    refine OS.pure rfl (fun _ => rfl) rfl ?_
    refine OS.nil ?_
    refine LS.ret ⟨_, fun _ _ => rfl, ?_⟩
    exact ⟨rfl, rfl⟩
  · have hb1 : (!ileB 0 i) = true := by rw [ileB_eq]; simp; omega
    refine CS.mk (fn := Try.f26) rfl rfl rfl rfl ?_
    repeat refine LS.seq ?_
    refine LS.region rfl ?_
    refine OS.pure rfl (fun _ => rfl) rfl ?_
    refine OS.pure rfl (fun _ => rfl) rfl ?_
    refine OS.nil ?_
    repeat refine LS.seq ?_
    refine LS.region rfl ?_
    refine OS.pure rfl (fun _ => rfl) rfl ?_
    refine OS.pure rfl (fun _ => rfl) rfl ?_
    refine OS.pure rfl (fun _ => rfl) rfl ?_
    refine OS.read rfl (e_load 0 rfl rfl rfl rfl rfl) rfl ?_
    refine OS.nil ?_
    rw [hd]
    refine LS.cond rfl (fun hc => by cases hc) (fun hc => ?_)
    refine LS.skip ?_
    repeat refine LS.seq ?_
    refine LS.region rfl ?_
    refine OS.pure rfl (fun _ => rfl) rfl ?_
    refine OS.pure rfl (e_is (fun _ => rfl) (congrArg Value.bool hb1)) rfl ?_
    refine OS.pure rfl (fun _ => rfl) rfl ?_
    refine OS.skip rfl rfl ?_
    refine OS.skip rfl rfl ?_
    refine OS.skip rfl rfl ?_
    refine OS.skip rfl rfl ?_
    refine OS.skip rfl rfl ?_
    refine OS.skip rfl rfl ?_
    refine OS.pure rfl (fun _ => rfl) rfl ?_
    refine OS.nil ?_
    refine LS.cond rfl (fun hc => ?_) (fun hc => by cases hc)
    repeat refine LS.seq ?_
    refine LS.region rfl ?_
    refine OS.pure rfl (fun _ => rfl) rfl ?_
    refine OS.pure rfl (fun _ => rfl) rfl ?_
    refine OS.nil ?_
    refine LS.ret ⟨_, fun _ _ => rfl, ?_⟩
    exact ⟨rfl, rfl⟩

theorem alike_ct {L : RL} {va vb : Value} {na nb : Nat} {xs ys : List UInt8} (ha : SV 1 L va na (byteCells xs)) (hb : SV 1 L vb nb (byteCells ys)) : CS Try.prog 27 [va, vb] L fun v L' => v = .bool (decide (xs = ys)) ∧ L' = L := by
  refine CS.mk (fn := Try.f27) rfl rfl rfl rfl ?_
  repeat refine LS.seq ?_
  refine LS.region rfl ?_
  refine OS.pure rfl (fun _ => rfl) rfl ?_
  refine OS.nil ?_
  repeat refine LS.seq ?_
  refine LS.region rfl ?_
  refine OS.pure rfl (fun _ => rfl) rfl ?_
  refine OS.read rfl (e_textSV (bs := xs) ha rfl rfl rfl rfl rfl) rfl ?_
  refine OS.pure rfl (fun _ => rfl) rfl ?_
  refine OS.read rfl (e_textSV (bs := ys) hb rfl rfl rfl rfl rfl) rfl ?_
  refine OS.pure rfl (e_is (fun _ => rfl) (congrArg Value.bool (show bytesEq xs ys = decide (xs = ys) by rw [bytesEq_eq]; by_cases h : xs = ys <;> simp [h]))) rfl ?_
  refine OS.pure rfl (fun _ => rfl) rfl ?_
  refine OS.nil ?_
  refine LS.ret ⟨_, fun _ _ => rfl, ?_⟩
  exact ⟨rfl, rfl⟩

/-- What a step writes. -/
def fillB (bs : List UInt8) (b : Bool) : List UInt8 := if b = true then bs ++ List.replicate (256 - bs.length) 0 else bs
theorem bytes_ct {L : RL} {k n : Int} {bs : List UInt8} {b : Bool} (hl : bs.length ≤ 140737488351232) : CS Try.prog 21 [.agg #[.int .i64 k, .int .i64 n, .string ⟨⟨bs⟩⟩, .bool b]] L fun v L' => ∃ r cap, v = .slice (some ⟨r, 0, none⟩) (fillB bs b).length cap ∧ L' = (r, .cells 5 (byteCells (fillB bs b))) :: L := by
  refine CS.mk (fn := Try.f21) rfl rfl rfl rfl ?_
  repeat refine LS.seq ?_
  refine LS.region rfl ?_
  refine OS.fresh rfl (e_new (fun _ => rfl) rfl) (fun _ => rfl) (fun rs => ?_)
  refine OS.pure rfl (fun _ => rfl) rfl ?_
  refine OS.nil ?_
  repeat refine LS.seq ?_
  refine LS.region rfl ?_
  refine OS.pure rfl (fun _ => rfl) rfl ?_
  refine OS.read rfl (e_load 0 rfl rfl rfl rfl rfl) rfl ?_
  refine OS.fresh rfl (e_bytes (bs := bs) rfl rfl rfl rfl rfl (by omega) rfl) (fun _ => rfl) (fun r => ?_)
  refine OS.pure rfl (fun _ => rfl) rfl ?_
  refine OS.nil ?_
  repeat refine LS.seq ?_
  refine LS.block ?_
  cases b with
  | false =>
    refine LS.loopJ [1, 3] (fun q a L' => L' = (r, .cells 5 (byteCells bs)) :: (rs, .cells 41 [.int .i64 k, .int .i64 n, .string ⟨⟨bs⟩⟩, .bool false]) :: L ∧
      a = [.chan none, ptr rs, .chan none, .slice (some ⟨r, 0, none⟩) bs.length openCap, .chan none, .chan none, .chan none, .chan none, .chan none, .chan none, .chan none, .chan none, .chan none, .chan none, .chan none, .chan none, .chan none, .chan none]) (n := 0) rfl ⟨rfl, rfl⟩ ?_
    rintro q a L' ⟨rfl, rfl⟩
    repeat refine LS.seq ?_
    refine LS.region rfl ?_
    refine OS.pure rfl (fun _ => rfl) rfl ?_
    refine OS.read rfl (e_load 1 rfl rfl rfl rfl rfl) rfl ?_
    refine OS.pure rfl (fun _ => rfl) rfl ?_
    refine OS.skip rfl rfl ?_
    refine OS.skip rfl rfl ?_
    refine OS.skip rfl rfl ?_
    refine OS.pure rfl (fun _ => rfl) rfl ?_
    refine OS.nil ?_
    repeat refine LS.seq ?_
    refine LS.cond rfl (fun hc => by cases hc) (fun hc => ?_)
    refine LS.exit ?_
    repeat refine LS.seq ?_
    refine LS.region rfl ?_
    refine OS.pure rfl (fun _ => rfl) rfl ?_
    refine OS.pure rfl (fun _ => rfl) rfl ?_
    refine OS.nil ?_
    refine LS.sub (Sub.drop 1 rfl) ?_
    refine LS.ret ⟨_, fun _ _ => rfl, ?_⟩
    exact ⟨r, _, rfl, rfl⟩
  | true =>
    refine LS.loopJ [1, 3] (fun q a L' => ∃ i r, q = 256 - bs.length - i ∧ i ≤ 256 - bs.length ∧ L' = (r, .cells 5 (byteCells (bs ++ List.replicate i 0))) :: (rs, .cells 41 [.int .i64 k, .int .i64 n, .string ⟨⟨bs⟩⟩, .bool true]) :: L ∧
      a = [.chan none, ptr rs, .chan none, .slice (some ⟨r, 0, none⟩) (bs.length + i) openCap, .chan none, .chan none, .chan none, .chan none, .chan none, .chan none, .chan none, .chan none, .chan none, .chan none, .chan none, .chan none, .chan none, .chan none]) (n := 256 - bs.length) rfl ⟨0, r, rfl, by omega, by rw [List.replicate_zero, List.append_nil]; rfl, rfl⟩ ?_
    rintro q a L' ⟨i, r, rfl, hi, rfl, rfl⟩
    repeat refine LS.seq ?_
    refine LS.region rfl ?_
    refine OS.pure rfl (fun _ => rfl) rfl ?_
    refine OS.read rfl (e_load 1 rfl rfl rfl rfl rfl) rfl ?_
    refine OS.pure rfl (fun _ => rfl) rfl ?_
    refine OS.pure rfl (fun _ => rfl) rfl ?_
    refine OS.pure rfl (fun _ => rfl) rfl ?_
    refine OS.pure rfl (fun _ => rfl) rfl ?_
    refine OS.pure rfl (fun _ => rfl) rfl ?_
    refine OS.nil ?_
    repeat refine LS.seq ?_
    refine LS.cond rfl (fun hc => ?_) (fun hc => ?_)
    · have hc : ((bs.length + i : Nat) : Int) < (256 : Nat) := lt_of hc
      refine LS.skip ?_
      repeat refine LS.seq ?_
      refine LS.block ?_
      repeat refine LS.seq ?_
      refine LS.region rfl ?_
      refine OS.pure rfl (fun _ => rfl) rfl ?_
      refine OS.fresh rfl (e_new (fun _ => rfl) rfl) (fun _ => rfl) (fun rz => ?_)
      refine OS.fresh rfl (e_append 1 (n := 1) (sz := 1) (bts := 1) (new := [.int .u8 0]) (old := byteCells (bs ++ List.replicate i 0)) rfl rfl rfl rfl (fun h H => (SV.row (sz := 1) (n := 1) (e := 5) (r := rz) (cap := 1) (cs := [.int .u8 0]) (List.mem_cons_self ..) rfl).first H) rfl (by omega) (by omega) rfl (cut_all (by rw [byteCells_len]; simp)) rfl) (fun _ => rfl) (fun rn => ?_)
      refine OS.sub (Sub.drop 1 rfl) ?_
      refine OS.pure rfl (fun _ => rfl) rfl ?_
      refine OS.nil ?_
      exact ⟨256 - bs.length - (i + 1), by omega, i + 1, rn, rfl, by omega, by rw [List.replicate_succ', ← List.append_assoc, byteCells_append (bs ++ _)]; rfl, rfl⟩
    have hc : ((256 : Nat) : Int) ≤ (bs.length + i : Nat) := nlt_of hc
    have hii : i = 256 - bs.length := by omega
    subst hii
    refine LS.exit ?_
    repeat refine LS.seq ?_
    refine LS.region rfl ?_
    refine OS.pure rfl (fun _ => rfl) rfl ?_
    refine OS.pure rfl (fun _ => rfl) rfl ?_
    refine OS.nil ?_
    refine LS.sub (Sub.drop 1 rfl) ?_
    refine LS.ret ⟨_, fun _ _ => rfl, ?_⟩
    have e : fillB bs true = bs ++ List.replicate (256 - bs.length) 0 := rfl
    rw [e, List.length_append, List.length_replicate]
    exact ⟨r, _, rfl, rfl⟩
end Go.Proofs.Ythfgjedcmhllfaa
