/- Layer 5: New, copied, Copy, Bytes, marks past the end. -/
import Derived.Test.YtlifdkihjnnonaaFc
namespace Go.Am
variable {P : Program} {o : Oper} {a : Slots} {L L₁ : RL}
/-- A whole list, copied into a row of its own. -/
theorem e_copy (i : Nat) {c : Call} {st e e' : TypeId} {sz n r cap : Nat} {x : Value} {cs new cs' : List Value} (hs : SV sz L x n new) (hpos : 0 < n) (hone : allOne new = true) (ho : o.op = .call c) (hc : c.callee = .builtin .copy) (ha : evs a c.args.toList = some [.slice (some ⟨r, 0, none⟩) n cap, x])
    (ht : c.argTypes[0]? = some st) (hu : P.underlying st = some (.slice e)) (hz : sizeB P e = some sz) (hL : L[i]? = some (r, .cells e' cs)) (hlay : lay cs 0 new = some cs') (hset : setL L i (r, .cells e' cs') = some L₁) : ∀ h, Has h L → ∃ h₁, opB P a o h = some (.val (.int .i64 n) h₁) ∧ Has h₁ L₁ := by
  intro h H
  obtain ⟨h₁, e₁⟩ := h.put_some r (some (.cells e' cs'))
  have := setL_eq hset
  subst this
  have hb : Nat.beq n 0 = false := by cases n with | zero => omega | succ n => rfl
  have hmin : Nat.min n n = n := Nat.min_self n
  refine ⟨h₁, ?_, H.put hL e₁⟩
  simp only [opB, ho, ha, callOpB, hc, copyB, ht, hu, hz, hs.lenB, hmin, hs.first H, hone, hs.notText, hb, H.row hL, hlay, e₁, Bool.true_or, Bool.and_self, ret2, goInt]
/-- Nothing is copied. -/
theorem e_copy0 {c : Call} {st e : TypeId} {sz cap : Nat} {ad : Option Addr} {x : Value} {new : List Value} (hs : SV sz L x 0 new) (ho : o.op = .call c) (hc : c.callee = .builtin .copy) (ha : evs a c.args.toList = some [.slice ad 0 cap, x])
    (ht : c.argTypes[0]? = some st) (hu : P.underlying st = some (.slice e)) (hz : sizeB P e = some sz) : ∀ h, Has h L → opB P a o h = some (.val (.int .i64 0) h) := by
  intro h H
  have hnew : new = [] := List.eq_nil_of_length_eq_zero (by have := hs.len; omega)
  subst hnew
  have hmin : Nat.min 0 0 = 0 := rfl
  have hone : allOne [] = true := rfl
  simp only [opB, ho, ha, callOpB, hc, copyB, ht, hu, hz, hs.lenB, hmin, hs.first H, hone, hs.notText, Bool.true_or, Bool.and_self, ret2, goInt]
  rfl
end Go.Am
namespace Go.Proofs.Ytlifdkihjnnonaa
open Go.Am
set_option linter.unusedVariables false
set_option maxRecDepth 20000

theorem makeT_bytes : makeT Try.prog 30 = some (5, 1, 1, [.int .u8 0]) := by kernel_rfl
theorem repL_u8 {n : Nat} : repL [Value.int .u8 0] n = byteCells (List.replicate n 0) := by
  rw [repL_one]; simp [byteCells]
theorem lay_all {cs ds : List UInt8} (h : cs.length = ds.length) : lay (byteCells cs) 0 (byteCells ds) = some (byteCells ds) := by
  rw [lay_of (by rw [byteCells_len, byteCells_len]; omega)]
  simp [byteCells_len, h]
theorem copied_ct {L : RL} {b : Value} {bs : List UInt8} (hb : SV 1 L b bs.length (byteCells bs)) (hn : bs.length ≤ 400000000000) : CS Try.prog 39 [b] L fun v L' => ∃ r, v = .slice (some ⟨r, 0, none⟩) bs.length bs.length ∧ L' = (r, .cells 5 (byteCells bs)) :: L := by
  refine CS.mk (fn := Try.f39) rfl rfl rfl rfl ?_
  repeat refine LS.seq ?_
  refine LS.region rfl ?_
  refine OS.pure rfl (fun _ => rfl) rfl ?_
  refine OS.nil ?_
  repeat refine LS.seq ?_
  refine LS.region rfl ?_
  refine OS.pure rfl (fun _ => rfl) rfl ?_
  refine OS.pure rfl (e_len hb rfl rfl rfl rfl rfl) rfl ?_
  refine OS.fresh rfl (e_make (l := bs.length) (c := bs.length) rfl rfl rfl makeT_bytes (Nat.le_refl _) (by omega) (by omega)) (fun _ => rfl) (fun r => ?_)
  rw [repL_u8]
  refine OS.pure rfl (fun _ => rfl) rfl ?_
  refine OS.nil ?_
  refine LS.seq ?_
  refine LS.mid [3] (fun a L' => L' = (r, .cells 5 (byteCells bs)) :: L ∧ a = [.chan none, .chan none, .chan none, .slice (some ⟨r, 0, none⟩) bs.length bs.length, .chan none, .chan none, .chan none, .chan none, .chan none, .chan none, .chan none]) ?_ ?_
  · rcases Nat.eq_zero_or_pos bs.length with h0 | h0
    · have hnil : bs = [] := List.eq_nil_of_length_eq_zero h0
      subst hnil
      repeat refine LS.seq ?_
      refine LS.region rfl ?_
      refine OS.pure rfl (fun _ => rfl) rfl ?_
      refine OS.pure rfl (fun _ => rfl) rfl ?_
      refine OS.read rfl (e_copy0 (sz := 1) hb.cons rfl rfl rfl rfl rfl rfl) rfl ?_
      refine OS.nil ?_
      exact ⟨rfl, rfl⟩
    · repeat refine LS.seq ?_
      refine LS.region rfl ?_
      refine OS.pure rfl (fun _ => rfl) rfl ?_
      refine OS.pure rfl (fun _ => rfl) rfl ?_
      refine OS.write rfl (e_copy 0 (n := bs.length) (sz := 1) (new := byteCells bs) (cs' := byteCells bs) hb.cons h0 (byteCells_one _) rfl rfl rfl rfl rfl rfl rfl (lay_all (by simp)) rfl) rfl ?_
      refine OS.nil ?_
      exact ⟨rfl, rfl⟩
  rintro a L' ⟨rfl, rfl⟩
  repeat refine LS.seq ?_
  refine LS.region rfl ?_
  refine OS.pure rfl (fun _ => rfl) rfl ?_
  refine OS.pure rfl (fun _ => rfl) rfl ?_
  refine OS.nil ?_
  refine LS.ret ⟨_, fun _ _ => rfl, ?_⟩
  exact ⟨r, rfl, rfl⟩
theorem pk_zeros (n : Nat) (hn : n ≤ 32768) : pk (List.replicate n false) = List.replicate ((n + 7) / 8) 0 := (Rep.zeros hn).pk.symm
theorem New_ct {L : RL} (n : Nat) (hn : n ≤ 32768) : CS Try.prog 9 [.int .i64 (n : Nat)] L fun v L' => ∃ rm rb, v = .tuple #[ptr rm, .int .i64 0] ∧ L' = fm rm rb (List.replicate n false) L := by
  have hb1 : (!ileB 0 (n : Int)) = false := by rw [ileB_eq]; simp
  have hb2 : (!ileB (n : Int) 32768) = false := by rw [ileB_eq]; simp; omega
  refine CS.mk (fn := Try.f9) rfl rfl rfl rfl ?_
  repeat refine LS.seq ?_
  refine LS.region rfl ?_
  refine OS.pure rfl (fun _ => rfl) rfl ?_
  refine OS.pure rfl (fun _ => rfl) rfl ?_
  refine OS.nil ?_
  repeat refine LS.seq ?_
  refine LS.region rfl ?_
  refine OS.pure rfl (fun _ => rfl) rfl ?_
  refine OS.pure rfl (e_is (fun _ => rfl) (congrArg Value.bool hb1)) rfl ?_
  refine OS.pure rfl (fun _ => rfl) rfl ?_
  refine OS.pure rfl (fun _ => rfl) rfl ?_
  refine OS.pure rfl (e_is (fun _ => rfl) (congrArg Value.bool hb2)) rfl ?_
  refine OS.pure rfl (fun _ => rfl) rfl ?_
  refine OS.nil ?_
  refine LS.cond rfl (fun hc => by cases hc) (fun hc => ?_)
  refine LS.skip ?_
  repeat refine LS.seq ?_
  refine LS.region rfl ?_
  refine OS.pure rfl (fun _ => rfl) rfl ?_
  refine OS.pure rfl (fun _ => rfl) rfl ?_
  refine OS.call noGo rfl (fun _ => rfl) ((markBytes_ct n (by omega)).mono ?_)
  rintro v L' ⟨rfl, rfl⟩
  refine ⟨_, rfl, ?_⟩
  refine OS.fresh rfl (e_make (l := (n + 7) / 8) (c := (n + 7) / 8) rfl rfl rfl makeT_bytes (Nat.le_refl _) (by omega) (by omega)) (fun _ => rfl) (fun rb => ?_)
  rw [repL_u8, ← pk_zeros n hn]
  refine OS.pure rfl (fun _ => rfl) rfl ?_
  refine OS.fresh rfl (e_new (fun _ => rfl) rfl) (fun _ => rfl) (fun rm => ?_)
  refine OS.pure rfl (fun _ => rfl) rfl ?_
  refine OS.pure rfl (fun _ => rfl) rfl ?_
  refine OS.nil ?_
  refine LS.ret ⟨_, fun _ _ => rfl, ?_⟩
  refine ⟨rm, rb, rfl, ?_⟩
  have hl : (pk (List.replicate n false)).length = (n + 7) / 8 := by rw [pk_len]; simp
  simp only [fm, hl, List.length_replicate]
  rfl
theorem New_wrong {L : RL} (n : Int) (h : n < 0 ∨ 32768 < n) : CS Try.prog 9 [.int .i64 n] L fun v L' => v = .tuple #[.pointer none, .int .i64 1] ∧ L' = L := by
  refine CS.mk (fn := Try.f9) rfl rfl rfl rfl ?_
  repeat refine LS.seq ?_
  refine LS.region rfl ?_
  refine OS.pure rfl (fun _ => rfl) rfl ?_
  refine OS.pure rfl (fun _ => rfl) rfl ?_
  refine OS.nil ?_
  by_cases h0 : n < 0
  · have hb1 : (!ileB 0 n) = true := by rw [ileB_eq]; simpa using h0
    repeat refine LS.seq ?_
    refine LS.region rfl ?_
    refine OS.pure rfl (fun _ => rfl) rfl ?_
    refine OS.pure rfl (e_is (fun _ => rfl) (congrArg Value.bool hb1)) rfl ?_
    refine OS.pure rfl (fun _ => rfl) rfl ?_
    refine OS.skip rfl rfl ?_
    refine OS.skip rfl rfl ?_
    refine OS.pure rfl (fun _ => rfl) rfl ?_
    refine OS.nil ?_
    refine LS.cond rfl (fun hc => ?_) (fun hc => by cases hc)
    repeat refine LS.seq ?_
    refine LS.region rfl ?_
    refine OS.pure rfl (fun _ => rfl) rfl ?_
    refine OS.pure rfl (fun _ => rfl) rfl ?_
    refine OS.nil ?_
    refine LS.ret ⟨_, fun _ _ => rfl, ?_⟩
    exact ⟨rfl, rfl⟩
  · have hb1 : (!ileB 0 n) = false := by rw [ileB_eq]; simp; omega
    have hb2 : (!ileB n 32768) = true := by rw [ileB_eq]; simp; omega
    repeat refine LS.seq ?_
    refine LS.region rfl ?_
    refine OS.pure rfl (fun _ => rfl) rfl ?_
    refine OS.pure rfl (e_is (fun _ => rfl) (congrArg Value.bool hb1)) rfl ?_
    refine OS.pure rfl (fun _ => rfl) rfl ?_
    refine OS.pure rfl (fun _ => rfl) rfl ?_
    refine OS.pure rfl (e_is (fun _ => rfl) (congrArg Value.bool hb2)) rfl ?_
    refine OS.pure rfl (fun _ => rfl) rfl ?_
    refine OS.nil ?_
    refine LS.cond rfl (fun hc => ?_) (fun hc => by cases hc)
    repeat refine LS.seq ?_
    refine LS.region rfl ?_
    refine OS.pure rfl (fun _ => rfl) rfl ?_
    refine OS.pure rfl (fun _ => rfl) rfl ?_
    refine OS.nil ?_
    refine LS.ret ⟨_, fun _ _ => rfl, ?_⟩
    exact ⟨rfl, rfl⟩

theorem marks_sv {F : RL} {rm rb : Nat} {T : List Bool} : SV 1 (fm rm rb T F) (.slice (some ⟨rb, 0, none⟩) (pk T).length (pk T).length) (pk T).length (byteCells (pk T)) :=
  SV.row (e := 5) (by simp) (by rw [byteCells_len]; omega)
theorem Copy_ct {F : RL} {rm rb : Nat} {T : List Bool} (hT : T.length ≤ 32768) : CS Try.prog 19 [ptr rm] (fm rm rb T F) fun v L' => ∃ rm' rb', v = ptr rm' ∧ L' = fm rm' rb' T (fm rm rb T F) := by
  have hl := pk_len T
  refine CS.mk (fn := Try.f19) rfl rfl rfl rfl ?_
  repeat refine LS.seq ?_
  refine LS.region rfl ?_
  refine OS.pure rfl (fun _ => rfl) rfl ?_
  refine OS.nil ?_
  repeat refine LS.seq ?_
  refine LS.region rfl ?_
  refine OS.pure rfl (fun _ => rfl) rfl ?_
  refine OS.pure rfl (fun _ => rfl) rfl ?_
  refine OS.nil ?_
  refine LS.cond rfl (fun hc => by cases hc) (fun hc => ?_)
  refine LS.skip ?_
  repeat refine LS.seq ?_
  refine LS.drawn noGo mixed [(0, false), (1, false), (2, false), (3, false), (4, false), (5, false), (6, false), (7, false), (8, true), (9, false), (10, true), (11, false)] rfl rfl (by kernel_rfl) ?_
  refine ODS.pure rfl rfl (fun _ => rfl) rfl ?_
  refine ODS.pure rfl rfl (fun _ => rfl) rfl ?_
  refine ODS.pure rfl rfl (fun _ => rfl) rfl ?_
  refine ODS.read rfl rfl (e_load 0 rfl rfl rfl rfl rfl) rfl ?_
  refine ODS.pure rfl rfl (fun _ => rfl) rfl ?_
  refine ODS.pure rfl rfl (fun _ => rfl) rfl ?_
  refine ODS.pure rfl rfl (fun _ => rfl) rfl ?_
  refine ODS.read rfl rfl (e_load 0 rfl rfl rfl rfl rfl) rfl ?_
  refine ODS.call rfl rfl (fun _ => rfl) ((copied_ct marks_sv (by omega)).mono ?_)
  rintro v L' ⟨r, rfl, rfl⟩
  refine ⟨_, rfl, Keep.gone rfl (Keep.cons rfl (e_load 1 rfl rfl rfl rfl rfl) Keep.nil), ?_⟩
  refine ODS.pure rfl rfl (fun _ => rfl) rfl ?_
  refine ODS.fresh rfl rfl (e_new (fun _ => rfl) rfl) (fun _ => rfl) (fun _ => (Keep.gone rfl (Keep.gone rfl Keep.nil))) (fun rm2 => ?_)
  refine ODS.pure rfl rfl (fun _ => rfl) rfl ?_
  refine ODS.nil ?_
  refine LS.ret ⟨_, fun _ _ => rfl, ?_⟩
  exact ⟨rm2, r, rfl, rfl⟩

/-- The map's bytes. -/
def mb (T : List Bool) : List UInt8 := grp T.length ++ pk T
theorem cnt_grp {n : Nat} (h : n ≤ 2147483647) : cnt (n : Int) = grp n := by unfold cnt; rw [if_pos (by omega)]; rfl
theorem Bytes_ct {F : RL} {rm rb : Nat} {T : List Bool} (hT : T.length ≤ 32768) : CS Try.prog 16 [ptr rm] (fm rm rb T F) fun v L' => ∃ r, v = .slice (some ⟨r, 0, none⟩) (mb T).length openCap ∧ L' = (r, .cells 5 (byteCells (mb T))) :: fm rm rb T F := by
  have hl := pk_len T
  have hg : (grp T.length).length ≤ 10 := grp_len (by omega) (by omega)
  have hcnt := cnt_grp (n := T.length) (by omega)
  refine CS.mk (fn := Try.f16) rfl rfl rfl rfl ?_
  repeat refine LS.seq ?_
  refine LS.region rfl ?_
  refine OS.pure rfl (fun _ => rfl) rfl ?_
  refine OS.nil ?_
  repeat refine LS.seq ?_
  refine LS.region rfl ?_
  refine OS.pure rfl (fun _ => rfl) rfl ?_
  refine OS.pure rfl (fun _ => rfl) rfl ?_
  refine OS.nil ?_
  refine LS.cond rfl (fun hc => by cases hc) (fun hc => ?_)
  refine LS.skip ?_
  repeat refine LS.seq ?_
  refine LS.drawn noGo mixed [(0, false), (1, false), (2, false), (3, false), (5, false), (6, false), (7, false), (8, false), (4, true), (9, true), (10, false)] rfl rfl (by kernel_rfl) ?_
  refine ODS.pure rfl rfl (fun _ => rfl) rfl ?_
  refine ODS.pure rfl rfl (fun _ => rfl) rfl ?_
  refine ODS.pure rfl rfl (fun _ => rfl) rfl ?_
  refine ODS.read rfl rfl (e_load 0 rfl rfl rfl rfl rfl) rfl ?_
  refine ODS.pure rfl rfl (fun _ => rfl) rfl ?_
  refine ODS.pure rfl rfl (fun _ => rfl) rfl ?_
  refine ODS.pure rfl rfl (fun _ => rfl) rfl ?_
  refine ODS.read rfl rfl (e_load 0 rfl rfl rfl rfl rfl) rfl ?_
  refine ODS.call rfl rfl (fun _ => rfl) ((Count_ct (bs := []) (n := 0) (T.length : Nat) (.inl ⟨rfl, rfl, rfl⟩) (by decide)).mono ?_)
  rintro v L' ⟨r, rfl, rfl⟩
  rw [hcnt]
  refine ⟨_, rfl, Keep.cons rfl (e_load 1 rfl rfl rfl rfl rfl) (Keep.gone rfl Keep.nil), ?_⟩
  refine ODS.fresh rfl rfl (e_appendSV 0 (sz := 1) (bts := 1) (n := (pk T).length) (new := byteCells (pk T)) marks_sv.cons (byteCells_one _) rfl rfl rfl (by simp; omega) (by simp; omega) rfl (cut_all (by rw [byteCells_len]; simp)) rfl) (fun _ => rfl) (fun _ => Keep.gone rfl (Keep.gone rfl Keep.nil)) (fun r2 => ?_)
  refine ODS.pure rfl rfl (fun _ => rfl) rfl ?_
  refine ODS.nil ?_
  refine LS.ret ⟨_, fun _ _ => rfl, ?_⟩
  refine ⟨r2, ?_, ?_⟩
  · unfold mb; rw [List.length_append]; simp [tupleB]
  · unfold mb; rw [byteCells_append, byteCells_append]; rfl
end Go.Proofs.Ytlifdkihjnnonaa
