/- Layer 3: the document's disk: cuts, copies, what is read. -/
import Derived.Test.YthfgjedcmhllfaaDp
namespace Go.Proofs.Ythfgjedcmhllfaa
open Go.Am
set_option linter.unusedVariables false
set_option maxRecDepth 20000

theorem rSet_all {F : RL} {rx old : Nat} {lv : Value} {s : Dk} (m : Int) : CS Try.prog 23 [ptr rx, .int .i64 m] ((rx, rfRow lv s old) :: F) fun v L' => v = .int .i64 (cutD s m).1 ∧ L' = (rx, rfRow lv (cutD s m).2 old) :: F := by
  obtain ⟨n, D, wr, cut, left, dead⟩ := s
  unfold cutD
  cases dead with
  | true =>
    rw [if_pos rfl]
    refine CS.mk (fn := Try.f23) rfl rfl rfl rfl ?_
    repeat refine LS.seq ?_
    refine LS.region rfl ?_
    refine OS.pure rfl (fun _ => rfl) rfl ?_
    refine OS.nil ?_
    repeat refine LS.seq ?_
    refine LS.region rfl ?_
    refine OS.pure rfl (fun _ => rfl) rfl ?_
    refine OS.pure rfl (fun _ => rfl) rfl ?_
    refine OS.pure rfl (fun _ => rfl) rfl ?_
    refine OS.read rfl (e_load 0 rfl rfl rfl rfl rfl) rfl ?_
    refine OS.nil ?_
    refine LS.cond rfl (fun hc => ?_) (fun hc => by cases hc)
    repeat refine LS.seq ?_
    refine LS.region rfl ?_
    refine OS.pure rfl (fun _ => rfl) rfl ?_
    refine OS.nil ?_
    refine LS.ret ⟨_, fun _ _ => rfl, ?_⟩
    exact ⟨rfl, rfl⟩
  | false =>
    rw [if_neg (show ¬ (false = true) by decide)]
    by_cases h0 : m < 0
    · have hb : (!ileB 0 m) = true := by rw [ileB_eq]; simp; omega
      rw [if_pos h0]
      refine CS.mk (fn := Try.f23) rfl rfl rfl rfl ?_
      repeat refine LS.seq ?_
      refine LS.region rfl ?_
      refine OS.pure rfl (fun _ => rfl) rfl ?_
      refine OS.nil ?_
      repeat refine LS.seq ?_
      refine LS.region rfl ?_
      refine OS.pure rfl (fun _ => rfl) rfl ?_
      refine OS.pure rfl (fun _ => rfl) rfl ?_
      refine OS.pure rfl (fun _ => rfl) rfl ?_
      refine OS.read rfl (e_load 0 rfl rfl rfl rfl rfl) rfl ?_
      refine OS.nil ?_
      refine LS.cond rfl (fun hc => by cases hc) (fun hc => ?_)
      refine LS.skip ?_
      repeat refine LS.seq ?_
      refine LS.region rfl ?_
      refine OS.pure rfl (fun _ => rfl) rfl ?_
      refine OS.pure rfl (e_is (fun _ => rfl) (congrArg Value.bool hb)) rfl ?_
      refine OS.nil ?_
      refine LS.cond rfl (fun hc => ?_) (fun hc => by cases hc)
      repeat refine LS.seq ?_
      refine LS.region rfl ?_
      refine OS.pure rfl (fun _ => rfl) rfl ?_
      refine OS.nil ?_
      refine LS.ret ⟨_, fun _ _ => rfl, ?_⟩
      exact ⟨rfl, rfl⟩
    · have hb : (!ileB 0 m) = false := by rw [ileB_eq]; simp; omega
      rw [if_neg h0]
      obtain ⟨j, rfl⟩ := Int.eq_ofNat_of_zero_le (show 0 ≤ m by omega)
      refine CS.mk (fn := Try.f23) rfl rfl rfl rfl ?_
      repeat refine LS.seq ?_
      refine LS.region rfl ?_
      refine OS.pure rfl (fun _ => rfl) rfl ?_
      refine OS.nil ?_
      repeat refine LS.seq ?_
      refine LS.region rfl ?_
      refine OS.pure rfl (fun _ => rfl) rfl ?_
      refine OS.pure rfl (fun _ => rfl) rfl ?_
      refine OS.pure rfl (fun _ => rfl) rfl ?_
      refine OS.read rfl (e_load 0 rfl rfl rfl rfl rfl) rfl ?_
      refine OS.nil ?_
      refine LS.cond rfl (fun hc => by cases hc) (fun hc => ?_)
      refine LS.skip ?_
      repeat refine LS.seq ?_
      refine LS.region rfl ?_
      refine OS.pure rfl (fun _ => rfl) rfl ?_
      refine OS.pure rfl (e_is (fun _ => rfl) (congrArg Value.bool hb)) rfl ?_
      refine OS.nil ?_
      refine LS.cond rfl (fun hc => by cases hc) (fun hc => ?_)
      refine LS.skip ?_
      repeat refine LS.seq ?_
      refine LS.region rfl ?_
      refine OS.pure rfl (fun _ => rfl) rfl ?_
      refine OS.pure rfl (fun _ => rfl) rfl ?_
      refine OS.pure rfl (fun _ => rfl) rfl ?_
      refine OS.pure rfl (fun _ => rfl) rfl ?_
      refine OS.write rfl (e_store 0 rfl rfl rfl rfl rfl rfl rfl rfl) rfl ?_
      refine OS.nil ?_
      repeat refine LS.seq ?_
      refine LS.region rfl ?_
      refine OS.pure rfl (fun _ => rfl) rfl ?_
      refine OS.nil ?_
      refine LS.ret ⟨_, fun _ _ => rfl, ?_⟩
      exact ⟨rfl, rfl⟩

theorem rReopen_alive {F : RL} {rx old : Nat} {lv : Value} {s : Dk} (hd : s.dead = false) : CS Try.prog 24 [ptr rx] ((rx, rfRow lv s old) :: F) fun v L' => v = .tuple #[.pointer none, .int .i64 50] ∧ L' = (rx, rfRow lv s old) :: F := by
  obtain ⟨n, D, wr, cut, left, dead⟩ := s
  simp only at hd
  subst hd
  refine CS.mk (fn := Try.f24) rfl rfl rfl rfl ?_
  repeat refine LS.seq ?_
  refine LS.region rfl ?_
  refine OS.pure rfl (fun _ => rfl) rfl ?_
  refine OS.pure rfl (fun _ => rfl) rfl ?_
  refine OS.nil ?_
  repeat refine LS.seq ?_
  refine LS.region rfl ?_
  refine OS.pure rfl (fun _ => rfl) rfl ?_
  refine OS.pure rfl (fun _ => rfl) rfl ?_
  refine OS.pure rfl (fun _ => rfl) rfl ?_
  refine OS.read rfl (e_load 0 rfl rfl rfl rfl rfl) rfl ?_
  refine OS.pure rfl (fun _ => rfl) rfl ?_
  refine OS.nil ?_
  refine LS.cond rfl (fun hc => ?_) (fun hc => by cases hc)
  repeat refine LS.seq ?_
  refine LS.region rfl ?_
  refine OS.pure rfl (fun _ => rfl) rfl ?_
  refine OS.pure rfl (fun _ => rfl) rfl ?_
  refine OS.nil ?_
  refine LS.ret ⟨_, fun _ _ => rfl, ?_⟩
  exact ⟨rfl, rfl⟩

theorem LV.one {e : TypeId} {sz n : Nat} {v : Value} {cs : List Value} {X : RL} (g : LV e sz v n cs X) : (v = .slice none 0 0 ∧ n = 0 ∧ cs = [] ∧ X = []) ∨ ∃ r cap, v = .slice (some ⟨r, 0, none⟩) n cap ∧ cs.length = n * sz ∧ X = [(r, .cells e cs)] := by
  rcases g with h | ⟨r, rfl, rfl, rfl, rfl⟩ | ⟨r, rfl, _, hl, rfl⟩
  · exact .inl h
  · exact .inr ⟨r, 0, rfl, by simp, rfl⟩
  · exact .inr ⟨r, openCap, rfl, hl, rfl⟩
theorem wcells_one (ws : Ws) : allOne (wcells ws) = true := by
  induction ws with
  | nil => rfl
  | cons w r ih => unfold wcells at *; rw [List.flatMap_cons]; simp only [List.cons_append, List.nil_append, allOne]; exact ih

theorem rReopen_dead {F X : RL} {rx old : Nat} {lv : Value} {s : Dk} {ws : Ws} (hX : WL lv ws X) (hw : ws.length ≤ 1000000) (hd : s.dead = true) :
    CS Try.prog 24 [ptr rx] ((rx, rfRow lv s old) :: (X ++ F)) fun v L' => ∃ rx' lv' X', v = .tuple #[ptr rx', .int .i64 0] ∧ WL lv' ws X' ∧ L' = (rx', rfRow lv' ⟨s.n, s.D, 0, false, 0, false⟩ ws.length) :: (X' ++ ((rx, rfRow lv s old) :: (X ++ F))) := by
  obtain ⟨n, D, wr, cut, left, dead⟩ := s
  simp only at hd
  subst hd
  have hsv : ∀ {p : Nat × ARow}, SV 2 (p :: (X ++ F)) lv ws.length (wcells ws) := fun {p} => hX.sv.mono (fun q hq => List.mem_cons_of_mem _ hq)
  refine CS.mk (fn := Try.f24) rfl rfl rfl rfl ?_
  repeat refine LS.seq ?_
  refine LS.region rfl ?_
  refine OS.pure rfl (fun _ => rfl) rfl ?_
  refine OS.pure rfl (fun _ => rfl) rfl ?_
  refine OS.nil ?_
  repeat refine LS.seq ?_
  refine LS.region rfl ?_
  refine OS.pure rfl (fun _ => rfl) rfl ?_
  refine OS.pure rfl (fun _ => rfl) rfl ?_
  refine OS.pure rfl (fun _ => rfl) rfl ?_
  refine OS.read rfl (e_load 0 rfl rfl rfl rfl rfl) rfl ?_
  refine OS.pure rfl (fun _ => rfl) rfl ?_
  refine OS.nil ?_
  refine LS.cond rfl (fun hc => by cases hc) (fun hc => ?_)
  refine LS.skip ?_
  cases hws : ws with
  | nil =>
    subst hws
    repeat refine LS.seq ?_
    refine LS.drawn noGo mixed [(0, false), (1, false), (2, false), (3, false), (4, false), (5, false), (6, false), (7, false), (8, false), (10, false), (11, false), (12, false), (13, false), (9, true), (14, false), (15, false), (16, true), (17, false), (18, false)] rfl rfl (by kernel_rfl) ?_
    refine ODS.pure rfl rfl (fun _ => rfl) rfl ?_
    refine ODS.pure rfl rfl (fun _ => rfl) rfl ?_
    refine ODS.pure rfl rfl (fun _ => rfl) rfl ?_
    refine ODS.read rfl rfl (e_load 0 rfl rfl rfl rfl rfl) rfl ?_
    refine ODS.pure rfl rfl (fun _ => rfl) rfl ?_
    refine ODS.pure rfl rfl (fun _ => rfl) rfl ?_
    refine ODS.pure rfl rfl (fun _ => rfl) rfl ?_
    refine ODS.read rfl rfl (e_load 0 rfl rfl rfl rfl rfl) rfl ?_
    refine ODS.pure rfl rfl (e_len (hX.sv (F := F)) rfl rfl rfl rfl rfl) rfl ?_
    refine ODS.pure rfl rfl (fun _ => rfl) rfl ?_
    refine ODS.pure rfl rfl (fun _ => rfl) rfl ?_
    refine ODS.pure rfl rfl (fun _ => rfl) rfl ?_
    refine ODS.read rfl rfl (e_load 0 rfl rfl rfl rfl rfl) rfl ?_
    refine ODS.fresh rfl rfl (e_new (fun _ => rfl) rfl) (fun _ => rfl) (fun rz => Keep.cons rfl (e_load 1 rfl rfl rfl rfl rfl) (Keep.cons rfl (e_load 1 rfl rfl rfl rfl rfl) (Keep.cons rfl (e_load 1 rfl rfl rfl rfl rfl) Keep.nil))) (fun rz => ?_)
    refine ODS.pure (v := .slice (some ⟨rz, 0, none⟩) 0 0) rfl rfl ?_ rfl ?_
    · rcases hX with ⟨rfl, _, _, rfl⟩ | ⟨r, rfl, _, _, rfl⟩ | ⟨r, _, h0, _⟩
      · exact fun _ => rfl
      · exact fun _ => rfl
      · cases h0
    refine ODS.pure rfl rfl (fun _ => rfl) rfl ?_
    refine ODS.fresh rfl rfl (e_new (fun _ => rfl) rfl) (fun _ => rfl) (fun rq => Keep.gone rfl (Keep.gone rfl (Keep.gone rfl Keep.nil))) (fun rq => ?_)
    refine ODS.pure rfl rfl (fun _ => rfl) rfl ?_
    refine ODS.pure rfl rfl (fun _ => rfl) rfl ?_
    refine ODS.nil ?_
    refine LS.ret ⟨_, fun _ _ => rfl, ?_⟩
    exact ⟨rq, _, _, rfl, LV.empty, rfl⟩
  | cons w us =>
    rw [← hws]
    have hpos : 0 < ws.length := by rw [hws]; simp
    repeat refine LS.seq ?_
    refine LS.drawn noGo mixed [(0, false), (1, false), (2, false), (3, false), (4, false), (5, false), (6, false), (7, false), (8, false), (10, false), (11, false), (12, false), (13, false), (9, true), (14, true), (15, false), (16, true), (17, false), (18, false)] rfl rfl (by kernel_rfl) ?_
    refine ODS.pure rfl rfl (fun _ => rfl) rfl ?_
    refine ODS.pure rfl rfl (fun _ => rfl) rfl ?_
    refine ODS.pure rfl rfl (fun _ => rfl) rfl ?_
    refine ODS.read rfl rfl (e_load 0 rfl rfl rfl rfl rfl) rfl ?_
    refine ODS.pure rfl rfl (fun _ => rfl) rfl ?_
    refine ODS.pure rfl rfl (fun _ => rfl) rfl ?_
    refine ODS.pure rfl rfl (fun _ => rfl) rfl ?_
    refine ODS.read rfl rfl (e_load 0 rfl rfl rfl rfl rfl) rfl ?_
    refine ODS.pure rfl rfl (e_len (hX.sv (F := F)) rfl rfl rfl rfl rfl) rfl ?_
    refine ODS.pure rfl rfl (fun _ => rfl) rfl ?_
    refine ODS.pure rfl rfl (fun _ => rfl) rfl ?_
    refine ODS.pure rfl rfl (fun _ => rfl) rfl ?_
    refine ODS.read rfl rfl (e_load 0 rfl rfl rfl rfl rfl) rfl ?_
    refine ODS.fresh rfl rfl (e_new (fun _ => rfl) rfl) (fun _ => rfl) (fun rz => Keep.cons rfl (e_load 1 rfl rfl rfl rfl rfl) (Keep.cons rfl (e_load 1 rfl rfl rfl rfl rfl) (Keep.cons rfl (e_load 1 rfl rfl rfl rfl rfl) Keep.nil))) (fun rz => ?_)
    refine ODS.fresh rfl rfl (e_appendE (sz := 2) (bts := 24) hsv.cons hpos (wcells_one ws) rfl rfl rfl (by omega) (by omega)) (fun _ => rfl) (fun rn => Keep.gone rfl (Keep.cons rfl (e_load 2 rfl rfl rfl rfl rfl) (Keep.cons rfl (e_load 2 rfl rfl rfl rfl rfl) Keep.nil))) (fun rn => ?_)
    refine ODS.pure rfl rfl (fun _ => rfl) rfl ?_
    refine ODS.fresh rfl rfl (e_new (fun _ => rfl) rfl) (fun _ => rfl) (fun rq => Keep.gone rfl (Keep.gone rfl (Keep.gone rfl Keep.nil))) (fun rq => ?_)
    refine ODS.pure rfl rfl (fun _ => rfl) rfl ?_
    refine ODS.pure rfl rfl (fun _ => rfl) rfl ?_
    refine ODS.nil ?_
    refine LS.sub (Sub.drop 2 rfl) ?_
    refine LS.ret ⟨_, fun _ _ => rfl, ?_⟩
    exact ⟨rq, _, _, rfl, LV.row hpos (wcells_len ws), rfl⟩

theorem rCopy_ct {F X : RL} {rx old : Nat} {lv : Value} {s : Dk} {ws : Ws} (hX : WL lv ws X) (hw : ws.length ≤ 1000000) :
    CS Try.prog 25 [ptr rx] ((rx, rfRow lv s old) :: (X ++ F)) fun v L' => ∃ rx' lv' X', v = ptr rx' ∧ WL lv' ws X' ∧ L' = (rx', rfRow lv' s old) :: (X' ++ ((rx, rfRow lv s old) :: (X ++ F))) := by
  have hsv : ∀ {p : Nat × ARow}, SV 2 (p :: (X ++ F)) lv ws.length (wcells ws) := fun {p} => hX.sv.mono (fun q hq => List.mem_cons_of_mem _ hq)
  refine CS.mk (fn := Try.f25) rfl rfl rfl rfl ?_
  repeat refine LS.seq ?_
  refine LS.region rfl ?_
  refine OS.pure rfl (fun _ => rfl) rfl ?_
  refine OS.nil ?_
  cases hws : ws with
  | nil =>
    subst hws
    repeat refine LS.seq ?_
    refine LS.drawn noGo mixed [(0, false), (1, false), (2, false), (3, false), (4, false), (5, false), (6, false), (7, false), (8, false), (9, false), (10, false), (11, false), (13, false), (14, false), (15, false), (16, false), (18, false), (19, false), (20, false), (21, false), (12, true), (17, false), (22, false), (23, true), (24, false)] rfl rfl (by kernel_rfl) ?_
    refine ODS.pure rfl rfl (fun _ => rfl) rfl ?_
    refine ODS.pure rfl rfl (fun _ => rfl) rfl ?_
    refine ODS.pure rfl rfl (fun _ => rfl) rfl ?_
    refine ODS.read rfl rfl (e_load 0 rfl rfl rfl rfl rfl) rfl ?_
    refine ODS.pure rfl rfl (fun _ => rfl) rfl ?_
    refine ODS.pure rfl rfl (fun _ => rfl) rfl ?_
    refine ODS.pure rfl rfl (fun _ => rfl) rfl ?_
    refine ODS.read rfl rfl (e_load 0 rfl rfl rfl rfl rfl) rfl ?_
    refine ODS.pure rfl rfl (fun _ => rfl) rfl ?_
    refine ODS.pure rfl rfl (fun _ => rfl) rfl ?_
    refine ODS.pure rfl rfl (fun _ => rfl) rfl ?_
    refine ODS.read rfl rfl (e_load 0 rfl rfl rfl rfl rfl) rfl ?_
    refine ODS.pure rfl rfl (fun _ => rfl) rfl ?_
    refine ODS.pure rfl rfl (fun _ => rfl) rfl ?_
    refine ODS.pure rfl rfl (fun _ => rfl) rfl ?_
    refine ODS.read rfl rfl (e_load 0 rfl rfl rfl rfl rfl) rfl ?_
    refine ODS.pure rfl rfl (fun _ => rfl) rfl ?_
    refine ODS.pure rfl rfl (fun _ => rfl) rfl ?_
    refine ODS.pure rfl rfl (fun _ => rfl) rfl ?_
    refine ODS.read rfl rfl (e_load 0 rfl rfl rfl rfl rfl) rfl ?_
    refine ODS.fresh rfl rfl (e_new (fun _ => rfl) rfl) (fun _ => rfl) (fun rz => Keep.cons rfl (e_load 1 rfl rfl rfl rfl rfl) (Keep.cons rfl (e_load 1 rfl rfl rfl rfl rfl) (Keep.cons rfl (e_load 1 rfl rfl rfl rfl rfl) (Keep.cons rfl (e_load 1 rfl rfl rfl rfl rfl) (Keep.cons rfl (e_load 1 rfl rfl rfl rfl rfl) Keep.nil))))) (fun rz => ?_)
    refine ODS.pure (v := .slice (some ⟨rz, 0, none⟩) 0 0) rfl rfl ?_ rfl ?_
    · rcases hX with ⟨rfl, _, _, rfl⟩ | ⟨r, rfl, _, _, rfl⟩ | ⟨r, _, h0, _⟩
      · exact fun _ => rfl
      · exact fun _ => rfl
      · cases h0
    refine ODS.pure rfl rfl (fun _ => rfl) rfl ?_
    refine ODS.fresh rfl rfl (e_new (fun _ => rfl) rfl) (fun _ => rfl) (fun rq => Keep.gone rfl (Keep.gone rfl (Keep.gone rfl (Keep.gone rfl (Keep.gone rfl Keep.nil))))) (fun rq => ?_)
    refine ODS.pure rfl rfl (fun _ => rfl) rfl ?_
    refine ODS.nil ?_
    refine LS.ret ⟨_, fun _ _ => rfl, ?_⟩
    exact ⟨rq, _, _, rfl, LV.empty, rfl⟩
  | cons w us =>
    rw [← hws]
    have hpos : 0 < ws.length := by rw [hws]; simp
    repeat refine LS.seq ?_
    refine LS.drawn noGo mixed [(0, false), (1, false), (2, false), (3, false), (4, false), (5, false), (6, false), (7, false), (8, false), (9, false), (10, false), (11, false), (13, false), (14, false), (15, false), (16, false), (18, false), (19, false), (20, false), (21, false), (12, true), (17, true), (22, false), (23, true), (24, false)] rfl rfl (by kernel_rfl) ?_
    refine ODS.pure rfl rfl (fun _ => rfl) rfl ?_
    refine ODS.pure rfl rfl (fun _ => rfl) rfl ?_
    refine ODS.pure rfl rfl (fun _ => rfl) rfl ?_
    refine ODS.read rfl rfl (e_load 0 rfl rfl rfl rfl rfl) rfl ?_
    refine ODS.pure rfl rfl (fun _ => rfl) rfl ?_
    refine ODS.pure rfl rfl (fun _ => rfl) rfl ?_
    refine ODS.pure rfl rfl (fun _ => rfl) rfl ?_
    refine ODS.read rfl rfl (e_load 0 rfl rfl rfl rfl rfl) rfl ?_
    refine ODS.pure rfl rfl (fun _ => rfl) rfl ?_
    refine ODS.pure rfl rfl (fun _ => rfl) rfl ?_
    refine ODS.pure rfl rfl (fun _ => rfl) rfl ?_
    refine ODS.read rfl rfl (e_load 0 rfl rfl rfl rfl rfl) rfl ?_
    refine ODS.pure rfl rfl (fun _ => rfl) rfl ?_
    refine ODS.pure rfl rfl (fun _ => rfl) rfl ?_
    refine ODS.pure rfl rfl (fun _ => rfl) rfl ?_
    refine ODS.read rfl rfl (e_load 0 rfl rfl rfl rfl rfl) rfl ?_
    refine ODS.pure rfl rfl (fun _ => rfl) rfl ?_
    refine ODS.pure rfl rfl (fun _ => rfl) rfl ?_
    refine ODS.pure rfl rfl (fun _ => rfl) rfl ?_
    refine ODS.read rfl rfl (e_load 0 rfl rfl rfl rfl rfl) rfl ?_
    refine ODS.fresh rfl rfl (e_new (fun _ => rfl) rfl) (fun _ => rfl) (fun rz => Keep.cons rfl (e_load 1 rfl rfl rfl rfl rfl) (Keep.cons rfl (e_load 1 rfl rfl rfl rfl rfl) (Keep.cons rfl (e_load 1 rfl rfl rfl rfl rfl) (Keep.cons rfl (e_load 1 rfl rfl rfl rfl rfl) (Keep.cons rfl (e_load 1 rfl rfl rfl rfl rfl) Keep.nil))))) (fun rz => ?_)
    refine ODS.fresh rfl rfl (e_appendE (sz := 2) (bts := 24) hsv.cons hpos (wcells_one ws) rfl rfl rfl (by omega) (by omega)) (fun _ => rfl) (fun rn => Keep.cons rfl (e_load 2 rfl rfl rfl rfl rfl) (Keep.gone rfl (Keep.cons rfl (e_load 2 rfl rfl rfl rfl rfl) (Keep.cons rfl (e_load 2 rfl rfl rfl rfl rfl) (Keep.cons rfl (e_load 2 rfl rfl rfl rfl rfl) Keep.nil))))) (fun rn => ?_)
    refine ODS.pure rfl rfl (fun _ => rfl) rfl ?_
    refine ODS.fresh rfl rfl (e_new (fun _ => rfl) rfl) (fun _ => rfl) (fun rq => Keep.gone rfl (Keep.gone rfl (Keep.gone rfl (Keep.gone rfl (Keep.gone rfl Keep.nil))))) (fun rq => ?_)
    refine ODS.pure rfl rfl (fun _ => rfl) rfl ?_
    refine ODS.nil ?_
    refine LS.sub (Sub.drop 2 rfl) ?_
    refine LS.ret ⟨_, fun _ _ => rfl, ?_⟩
    exact ⟨rq, _, _, rfl, LV.row hpos (wcells_len ws), rfl⟩
end Go.Proofs.Ythfgjedcmhllfaa
