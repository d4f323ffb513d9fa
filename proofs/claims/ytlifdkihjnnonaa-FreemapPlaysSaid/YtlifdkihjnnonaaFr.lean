/- Layer 5: what the calls of the document's answer (bastionref05) come to. -/
import Derived.Test.YtlifdkihjnnonaaFi
namespace Go.Proofs.Ytlifdkihjnnonaa
open Go.Am
set_option linter.unusedVariables false
set_option maxRecDepth 20000

def bools (T : List Bool) : List Value := T.map .bool
theorem bools_len (T : List Bool) : (bools T).length = T.length := by simp [bools]
theorem bools_at {T : List Bool} {i : Nat} (h : i < T.length) : (bools T)[0 + i * 1]? = some (.bool (tkn T i)) := by
  rw [show 0 + i * 1 = i by omega]
  simp [bools, tkn_in h]
theorem lay_bool {T : List Bool} {i : Nat} (b : Bool) (h : i < T.length) : lay (bools T) (0 + i * 1) [.bool b] = some (bools (T.set i b)) := by
  rw [show 0 + i * 1 = i by omega, lay_one (by rw [bools_len]; exact h)]
  simp [bools, List.map_set]
theorem bools_one (T : List Bool) : allOne (bools T) = true := by
  induction T with
  | nil => rfl
  | cons b T ih => simpa [bools, allOne, oneB] using ih
/-- The rows of the document's map, ahead of others. -/
abbrev rfRow (rt n c : Nat) : ARow := .cells 50 [.slice (some ⟨rt, 0, none⟩) n c]
abbrev rf (rx rt c : Nat) (T : List Bool) (F : RL) : RL := (rx, rfRow rt T.length c) :: (rt, .cells 4 (bools T)) :: F

theorem makeT_bools : makeT Try.prog 48 = some (4, 1, 1, [.bool false]) := by kernel_rfl
theorem repL_bool {n : Nat} : repL [Value.bool false] n = bools (List.replicate n false) := by
  rw [repL_one]; simp [bools]
theorem rNew_ct {L : RL} (n : Nat) (hn : n ≤ 32768) : CS Try.prog 20 [.int .i64 (n : Nat)] L fun v L' => ∃ rx rt c, v = .tuple #[ptr rx, .int .i64 0] ∧ L' = rf rx rt c (List.replicate n false) L := by
  have hb1 : (!ileB 0 (n : Int)) = false := by rw [ileB_eq]; simp
  have hb2 : (!ileB (n : Int) 32768) = false := by rw [ileB_eq]; simp; omega
  refine CS.mk (fn := Try.f20) rfl rfl rfl rfl ?_
  repeat refine LS.seq ?_
  refine LS.region rfl ?_
  refine OS.pure rfl (fun _ => rfl) rfl ?_
  refine OS.pure rfl (fun _ => rfl) rfl ?_
  refine OS.nil ?_
  repeat refine LS.seq ?_
  refine LS.region rfl ?_
  refine OS.pure rfl (fun _ => rfl) rfl ?_
  refine OS.pure rfl (e_bools (fun _ => rfl) hb1) rfl ?_
  refine OS.pure rfl (fun _ => rfl) rfl ?_
  refine OS.pure rfl (fun _ => rfl) rfl ?_
  refine OS.pure rfl (e_bools (fun _ => rfl) hb2) rfl ?_
  refine OS.pure rfl (fun _ => rfl) rfl ?_
  refine OS.nil ?_
  refine LS.cond rfl (fun hc => by cases hc) (fun hc => ?_)
  refine LS.skip ?_
  repeat refine LS.seq ?_
  refine LS.region rfl ?_
  refine OS.pure rfl (fun _ => rfl) rfl ?_
  refine OS.fresh rfl (e_make (l := n) (c := n) rfl rfl rfl makeT_bools (Nat.le_refl _) (by omega) (by omega)) (fun _ => rfl) (fun rt => ?_)
  rw [repL_bool]
  refine OS.pure rfl (fun _ => rfl) rfl ?_
  refine OS.fresh rfl (e_new (fun _ => rfl) rfl) (fun _ => rfl) (fun rx => ?_)
  refine OS.pure rfl (fun _ => rfl) rfl ?_
  refine OS.pure rfl (fun _ => rfl) rfl ?_
  refine OS.nil ?_
  refine LS.ret ⟨_, fun _ _ => rfl, ?_⟩
  refine ⟨rx, rt, n, rfl, ?_⟩
  simp only [rf, List.length_replicate]
  rfl
theorem rNew_wrong {L : RL} (n : Int) (h : n < 0 ∨ 32768 < n) : CS Try.prog 20 [.int .i64 n] L fun v L' => v = .tuple #[.pointer none, .int .i64 1] ∧ L' = L := by
  refine CS.mk (fn := Try.f20) rfl rfl rfl rfl ?_
  repeat refine LS.seq ?_
  refine LS.region rfl ?_
  refine OS.pure rfl (fun _ => rfl) rfl ?_
  refine OS.pure rfl (fun _ => rfl) rfl ?_
  refine OS.nil ?_
  by_cases h0 : n < 0
  · have hb1 : (!ileB 0 n) = true := by rw [ileB_eq]; simpa using h0
    repeat refine LS.seq ?_
    refine LS.region rfl ?_
    refine OS.pure rfl (fun _ => rfl) rfl ?_
    refine OS.pure rfl (e_bools (fun _ => rfl) hb1) rfl ?_
    refine OS.pure rfl (fun _ => rfl) rfl ?_
    refine OS.skip rfl rfl ?_
    refine OS.skip rfl rfl ?_
    refine OS.pure rfl (fun _ => rfl) rfl ?_
    refine OS.nil ?_
    refine LS.cond rfl (fun hc => ?_) (fun hc => by cases hc)
    repeat refine LS.seq ?_
    refine LS.region rfl ?_
    refine OS.pure rfl (fun _ => rfl) rfl ?_
    refine OS.pure rfl (fun _ => rfl) rfl ?_
    refine OS.nil ?_
    refine LS.ret ⟨_, fun _ _ => rfl, ?_⟩
    exact ⟨rfl, rfl⟩
  · have hb1 : (!ileB 0 n) = false := by rw [ileB_eq]; simp; omega
    have hb2 : (!ileB n 32768) = true := by rw [ileB_eq]; simp; omega
    repeat refine LS.seq ?_
    refine LS.region rfl ?_
    refine OS.pure rfl (fun _ => rfl) rfl ?_
    refine OS.pure rfl (e_bools (fun _ => rfl) hb1) rfl ?_
    refine OS.pure rfl (fun _ => rfl) rfl ?_
    refine OS.pure rfl (fun _ => rfl) rfl ?_
    refine OS.pure rfl (e_bools (fun _ => rfl) hb2) rfl ?_
    refine OS.pure rfl (fun _ => rfl) rfl ?_
    refine OS.nil ?_
    refine LS.cond rfl (fun hc => ?_) (fun hc => by cases hc)
    repeat refine LS.seq ?_
    refine LS.region rfl ?_
    refine OS.pure rfl (fun _ => rfl) rfl ?_
    refine OS.pure rfl (fun _ => rfl) rfl ?_
    refine OS.nil ?_
    refine LS.ret ⟨_, fun _ _ => rfl, ?_⟩
    exact ⟨rfl, rfl⟩

section
variable {F : RL} {rx rt c : Nat} {T : List Bool}
theorem rTake_ct (hT : T.length ≤ 32768) : CS Try.prog 21 [ptr rx] (rf rx rt c T F) fun v L' => v = .tuple #[.int .i64 (takeI T : Nat), .int .i64 (takeE T)] ∧ L' = rf rx rt c (takeS T) F := by
  refine CS.mk (fn := Try.f21) rfl rfl rfl rfl ?_
  repeat refine LS.seq ?_
  refine LS.region rfl ?_
  refine OS.pure rfl (fun _ => rfl) rfl ?_
  refine OS.pure rfl (fun _ => rfl) rfl ?_
  refine OS.nil ?_
  repeat refine LS.seq ?_
  refine LS.region rfl ?_
  refine OS.pure rfl (fun _ => rfl) rfl ?_
  refine OS.nil ?_
  repeat refine LS.seq ?_
  refine LS.block ?_
  refine LS.loopJ [0, 4] (fun q a L' => ∃ i, q = T.length - i ∧ i ≤ T.length ∧ (∀ j, j < i → tkn T j = true) ∧ L' = rf rx rt c T F ∧ a = [ptr rx, .chan none, .chan none, .chan none, .int .i64 (i : Nat), .chan none, .chan none, .chan none, .chan none, .chan none, .chan none, .chan none, .chan none, .chan none, .chan none, .chan none, .chan none, .chan none, .chan none, .chan none, .chan none, .chan none, .chan none, .chan none, .chan none, .chan none, .chan none, .chan none, .chan none]) (n := T.length) rfl ⟨0, rfl, by omega, fun j hj => by omega, rfl, rfl⟩ ?_
  rintro q a L' ⟨i, rfl, hi, hall, rfl, rfl⟩
  repeat refine LS.seq ?_
  refine LS.region rfl ?_
  refine OS.pure rfl (fun _ => rfl) rfl ?_
  refine OS.pure rfl (fun _ => rfl) rfl ?_
  refine OS.pure rfl (fun _ => rfl) rfl ?_
  refine OS.pure rfl (fun _ => rfl) rfl ?_
  refine OS.read rfl (e_load 0 rfl rfl rfl rfl rfl) rfl ?_
  refine OS.pure rfl (fun _ => rfl) rfl ?_
  refine OS.pure rfl (fun _ => rfl) rfl ?_
  refine OS.nil ?_
  repeat refine LS.seq ?_
  refine LS.cond rfl (fun hc => ?_) (fun hc => ?_)
  · have hc := lt_of hc
    have hil : i < T.length := by omega
    refine LS.skip ?_
    repeat refine LS.seq ?_
    refine LS.block ?_
    repeat refine LS.seq ?_
    refine LS.region rfl ?_
    refine OS.pure rfl (fun _ => rfl) rfl ?_
    refine OS.pure rfl (fun _ => rfl) rfl ?_
    refine OS.pure rfl (fun _ => rfl) rfl ?_
    refine OS.read rfl (e_load 0 rfl rfl rfl rfl rfl) rfl ?_
    refine OS.pure rfl (fun _ => rfl) rfl ?_
    refine OS.pure rfl (e_index (j := i) (sz := 1) rfl rfl rfl rfl rfl hil) rfl ?_
    refine OS.read rfl (e_load 1 rfl rfl rfl rfl (part_one rfl (bools_at hil))) rfl ?_
    cases ht : tkn T i
    · have hff : ff T = i := ff_is hall ht
      refine OS.pure rfl (fun _ => rfl) rfl ?_
      refine OS.nil ?_
      refine LS.cond rfl (fun hc => ?_) (fun hc => by cases hc)
      repeat refine LS.seq ?_
      refine LS.region rfl ?_
      refine OS.pure rfl (fun _ => rfl) rfl ?_
      refine OS.pure rfl (fun _ => rfl) rfl ?_
      refine OS.pure rfl (fun _ => rfl) rfl ?_
      refine OS.read rfl (e_load 0 rfl rfl rfl rfl rfl) rfl ?_
      refine OS.pure rfl (fun _ => rfl) rfl ?_
      refine OS.pure rfl (e_index (j := i) (sz := 1) rfl rfl rfl rfl rfl hil) rfl ?_
      refine OS.write rfl (e_store 1 (n := 1) rfl rfl rfl rfl rfl rfl (lay_bool _ hil) rfl) rfl ?_
      refine OS.nil ?_
      repeat refine LS.seq ?_
      refine LS.region rfl ?_
      refine OS.pure rfl (fun _ => rfl) rfl ?_
      refine OS.pure rfl (fun _ => rfl) rfl ?_
      refine OS.pure rfl (fun _ => rfl) rfl ?_
      refine OS.nil ?_
      refine LS.ret ⟨_, fun _ _ => rfl, ?_⟩
      unfold takeI takeE takeS
      rw [hff, if_pos hil, if_pos hil, if_pos hil]
      simp only [rf, List.length_set]
      exact ⟨rfl, trivial⟩
    · refine OS.pure rfl (fun _ => rfl) rfl ?_
      refine OS.nil ?_
      refine LS.cond rfl (fun hc => by cases hc) (fun hc => ?_)
      refine LS.skip ?_
      repeat refine LS.seq ?_
      refine LS.region rfl ?_
      refine OS.pure rfl (fun _ => rfl) rfl ?_
      refine OS.pure rfl (e_add rfl rfl rfl (in_i64 (by omega) (by omega))) rfl ?_
      refine OS.pure rfl (fun _ => rfl) rfl ?_
      refine OS.nil ?_
      refine ⟨T.length - (i + 1), by omega, i + 1, rfl, by omega, fun j hj => ?_, rfl, rfl⟩
      by_cases e : j = i
      · rw [e]; exact ht
      · exact hall j (by omega)
  · have hc := nlt_of hc
    have hil : i = T.length := by omega
    subst hil
    have hff : ff T = T.length := ff_is hall (tkn_out (Nat.le_refl _))
    refine LS.exit ?_
    repeat refine LS.seq ?_
    refine LS.region rfl ?_
    refine OS.pure rfl (fun _ => rfl) rfl ?_
    refine OS.pure rfl (fun _ => rfl) rfl ?_
    refine OS.nil ?_
    refine LS.ret ⟨_, fun _ _ => rfl, ?_⟩
    unfold takeI takeE takeS
    rw [hff, if_neg (Nat.lt_irrefl _), if_neg (Nat.lt_irrefl _), if_neg (Nat.lt_irrefl _)]
    exact ⟨rfl, rfl⟩
theorem rClaim_ct (hT : T.length ≤ 32768) (i : Int) : CS Try.prog 22 [ptr rx, .int .i64 i] (rf rx rt c T F) fun v L' => v = .int .i64 (claimE T i) ∧ L' = rf rx rt c (claimS T i) F := by
  refine CS.mk (fn := Try.f22) rfl rfl rfl rfl ?_
  repeat refine LS.seq ?_
  refine LS.region rfl ?_
  refine OS.pure rfl (fun _ => rfl) rfl ?_
  refine OS.nil ?_
  by_cases h0 : 0 ≤ i
  · have hb0 : (!ileB 0 i) = false := by rw [ileB_eq]; simpa using h0
    obtain ⟨j, rfl⟩ := Int.eq_ofNat_of_zero_le h0
    by_cases h1 : j < T.length
    · have hb1 : ileB (T.length : Int) (j : Int) = false := by rw [ileB_eq]; simp; omega
      have hE : claimE T (j : Nat) = if tkn T j then 6 else 0 := by unfold claimE; rw [if_pos (by omega)]; rfl
      repeat refine LS.seq ?_
      refine LS.region rfl ?_
      refine OS.pure rfl (fun _ => rfl) rfl ?_
      refine OS.pure rfl (e_bools (fun _ => rfl) hb0) rfl ?_
      refine OS.pure rfl (fun _ => rfl) rfl ?_
      refine OS.pure rfl (fun _ => rfl) rfl ?_
      refine OS.pure rfl (fun _ => rfl) rfl ?_
      refine OS.pure rfl (fun _ => rfl) rfl ?_
      refine OS.pure rfl (fun _ => rfl) rfl ?_
      refine OS.read rfl (e_load 0 rfl rfl rfl rfl rfl) rfl ?_
      refine OS.pure rfl (fun _ => rfl) rfl ?_
      refine OS.pure rfl (e_bools (fun _ => rfl) hb1) rfl ?_
      refine OS.pure rfl (fun _ => rfl) rfl ?_
      refine OS.nil ?_
      refine LS.cond rfl (fun hc => by cases hc) (fun hc => ?_)
      refine LS.skip ?_
      repeat refine LS.seq ?_
      refine LS.region rfl ?_
      refine OS.pure rfl (fun _ => rfl) rfl ?_
      refine OS.pure rfl (fun _ => rfl) rfl ?_
      refine OS.pure rfl (fun _ => rfl) rfl ?_
      refine OS.read rfl (e_load 0 rfl rfl rfl rfl rfl) rfl ?_
      refine OS.pure rfl (fun _ => rfl) rfl ?_
      refine OS.pure rfl (e_index (j := j) (sz := 1) rfl rfl rfl rfl rfl h1) rfl ?_
      refine OS.read rfl (e_load 1 rfl rfl rfl rfl (part_one rfl (bools_at h1))) rfl ?_
      refine OS.nil ?_
      unfold claimS
      rw [hE]
      cases ht : tkn T j
      · refine LS.cond rfl (fun hc => by cases hc) (fun hc => ?_)
        refine LS.skip ?_
        repeat refine LS.seq ?_
        refine LS.region rfl ?_
        refine OS.pure rfl (fun _ => rfl) rfl ?_
        refine OS.pure rfl (fun _ => rfl) rfl ?_
        refine OS.pure rfl (fun _ => rfl) rfl ?_
        refine OS.read rfl (e_load 0 rfl rfl rfl rfl rfl) rfl ?_
        refine OS.pure rfl (fun _ => rfl) rfl ?_
        refine OS.pure rfl (e_index (j := j) (sz := 1) rfl rfl rfl rfl rfl h1) rfl ?_
        refine OS.write rfl (e_store 1 (n := 1) rfl rfl rfl rfl rfl rfl (lay_bool _ h1) rfl) rfl ?_
        refine OS.nil ?_
        repeat refine LS.seq ?_
        refine LS.region rfl ?_
        refine OS.pure rfl (fun _ => rfl) rfl ?_
        refine OS.nil ?_
        refine LS.ret ⟨_, fun _ _ => rfl, ?_⟩
        rw [if_neg (by simp), if_pos rfl, Int.toNat_natCast]
        simp only [rf, List.length_set]
        exact ⟨rfl, trivial⟩
      · refine LS.cond rfl (fun hc => ?_) (fun hc => by cases hc)
        repeat refine LS.seq ?_
        refine LS.region rfl ?_
        refine OS.pure rfl (fun _ => rfl) rfl ?_
        refine OS.nil ?_
        refine LS.ret ⟨_, fun _ _ => rfl, ?_⟩
        exact ⟨rfl, rfl⟩
    · have hb1 : ileB (T.length : Int) (j : Int) = true := by rw [ileB_eq]; simp; omega
      have hE : claimE T (j : Nat) = 1 := by unfold claimE; rw [if_neg (by omega)]
      repeat refine LS.seq ?_
      refine LS.region rfl ?_
      refine OS.pure rfl (fun _ => rfl) rfl ?_
      refine OS.pure rfl (e_bools (fun _ => rfl) hb0) rfl ?_
      refine OS.pure rfl (fun _ => rfl) rfl ?_
      refine OS.pure rfl (fun _ => rfl) rfl ?_
      refine OS.pure rfl (fun _ => rfl) rfl ?_
      refine OS.pure rfl (fun _ => rfl) rfl ?_
      refine OS.pure rfl (fun _ => rfl) rfl ?_
      refine OS.read rfl (e_load 0 rfl rfl rfl rfl rfl) rfl ?_
      refine OS.pure rfl (fun _ => rfl) rfl ?_
      refine OS.pure rfl (e_bools (fun _ => rfl) hb1) rfl ?_
      refine OS.pure rfl (fun _ => rfl) rfl ?_
      refine OS.nil ?_
      refine LS.cond rfl (fun hc => ?_) (fun hc => by cases hc)
      repeat refine LS.seq ?_
      refine LS.region rfl ?_
      refine OS.pure rfl (fun _ => rfl) rfl ?_
      refine OS.nil ?_
      refine LS.ret ⟨_, fun _ _ => rfl, ?_⟩
      unfold claimS
      rw [hE]
      exact ⟨rfl, rfl⟩
  · have hb0 : (!ileB 0 i) = true := by rw [ileB_eq]; simp; omega
    have hE : claimE T i = 1 := by unfold claimE; rw [if_neg (by omega)]
    repeat refine LS.seq ?_
    refine LS.region rfl ?_
    refine OS.pure rfl (fun _ => rfl) rfl ?_
    refine OS.pure rfl (e_bools (fun _ => rfl) hb0) rfl ?_
    refine OS.pure rfl (fun _ => rfl) rfl ?_
    refine OS.skip rfl rfl ?_
    refine OS.skip rfl rfl ?_
    refine OS.skip rfl rfl ?_
    refine OS.skip rfl rfl ?_
    refine OS.skip rfl rfl ?_
    refine OS.skip rfl rfl ?_
    refine OS.skip rfl rfl ?_
    refine OS.pure rfl (fun _ => rfl) rfl ?_
    refine OS.nil ?_
    refine LS.cond rfl (fun hc => ?_) (fun hc => by cases hc)
    repeat refine LS.seq ?_
    refine LS.region rfl ?_
    refine OS.pure rfl (fun _ => rfl) rfl ?_
    refine OS.nil ?_
    refine LS.ret ⟨_, fun _ _ => rfl, ?_⟩
    unfold claimS
    rw [hE]
    exact ⟨rfl, rfl⟩
theorem rDrop_ct (hT : T.length ≤ 32768) (i : Int) : CS Try.prog 23 [ptr rx, .int .i64 i] (rf rx rt c T F) fun v L' => v = .int .i64 (dropE T i) ∧ L' = rf rx rt c (dropS T i) F := by
  refine CS.mk (fn := Try.f23) rfl rfl rfl rfl ?_
  repeat refine LS.seq ?_
  refine LS.region rfl ?_
  refine OS.pure rfl (fun _ => rfl) rfl ?_
  refine OS.nil ?_
  by_cases h0 : 0 ≤ i
  · have hb0 : (!ileB 0 i) = false := by rw [ileB_eq]; simpa using h0
    obtain ⟨j, rfl⟩ := Int.eq_ofNat_of_zero_le h0
    by_cases h1 : j < T.length
    · have hb1 : ileB (T.length : Int) (j : Int) = false := by rw [ileB_eq]; simp; omega
      have hE : dropE T (j : Nat) = if tkn T j then 0 else 5 := by unfold dropE; rw [if_pos (by omega)]; rfl
      repeat refine LS.seq ?_
      refine LS.region rfl ?_
      refine OS.pure rfl (fun _ => rfl) rfl ?_
      refine OS.pure rfl (e_bools (fun _ => rfl) hb0) rfl ?_
      refine OS.pure rfl (fun _ => rfl) rfl ?_
      refine OS.pure rfl (fun _ => rfl) rfl ?_
      refine OS.pure rfl (fun _ => rfl) rfl ?_
      refine OS.pure rfl (fun _ => rfl) rfl ?_
      refine OS.pure rfl (fun _ => rfl) rfl ?_
      refine OS.read rfl (e_load 0 rfl rfl rfl rfl rfl) rfl ?_
      refine OS.pure rfl (fun _ => rfl) rfl ?_
      refine OS.pure rfl (e_bools (fun _ => rfl) hb1) rfl ?_
      refine OS.pure rfl (fun _ => rfl) rfl ?_
      refine OS.nil ?_
      refine LS.cond rfl (fun hc => by cases hc) (fun hc => ?_)
      refine LS.skip ?_
      repeat refine LS.seq ?_
      refine LS.region rfl ?_
      refine OS.pure rfl (fun _ => rfl) rfl ?_
      refine OS.pure rfl (fun _ => rfl) rfl ?_
      refine OS.pure rfl (fun _ => rfl) rfl ?_
      refine OS.read rfl (e_load 0 rfl rfl rfl rfl rfl) rfl ?_
      refine OS.pure rfl (fun _ => rfl) rfl ?_
      refine OS.pure rfl (e_index (j := j) (sz := 1) rfl rfl rfl rfl rfl h1) rfl ?_
      refine OS.read rfl (e_load 1 rfl rfl rfl rfl (part_one rfl (bools_at h1))) rfl ?_
      unfold dropS
      rw [hE]
      cases ht : tkn T j
      · refine OS.pure rfl (fun _ => rfl) rfl ?_
        refine OS.nil ?_
        refine LS.cond rfl (fun hc => ?_) (fun hc => by cases hc)
        repeat refine LS.seq ?_
        refine LS.region rfl ?_
        refine OS.pure rfl (fun _ => rfl) rfl ?_
        refine OS.nil ?_
        refine LS.ret ⟨_, fun _ _ => rfl, ?_⟩
        exact ⟨rfl, rfl⟩
      · refine OS.pure rfl (fun _ => rfl) rfl ?_
        refine OS.nil ?_
        refine LS.cond rfl (fun hc => by cases hc) (fun hc => ?_)
        refine LS.skip ?_
        repeat refine LS.seq ?_
        refine LS.region rfl ?_
        refine OS.pure rfl (fun _ => rfl) rfl ?_
        refine OS.pure rfl (fun _ => rfl) rfl ?_
        refine OS.pure rfl (fun _ => rfl) rfl ?_
        refine OS.read rfl (e_load 0 rfl rfl rfl rfl rfl) rfl ?_
        refine OS.pure rfl (fun _ => rfl) rfl ?_
        refine OS.pure rfl (e_index (j := j) (sz := 1) rfl rfl rfl rfl rfl h1) rfl ?_
        refine OS.write rfl (e_store 1 (n := 1) rfl rfl rfl rfl rfl rfl (lay_bool _ h1) rfl) rfl ?_
        refine OS.nil ?_
        repeat refine LS.seq ?_
        refine LS.region rfl ?_
        refine OS.pure rfl (fun _ => rfl) rfl ?_
        refine OS.nil ?_
        refine LS.ret ⟨_, fun _ _ => rfl, ?_⟩
        rw [if_pos rfl, if_pos rfl, Int.toNat_natCast]
        simp only [rf, List.length_set]
        exact ⟨rfl, trivial⟩
    · have hb1 : ileB (T.length : Int) (j : Int) = true := by rw [ileB_eq]; simp; omega
      have hE : dropE T (j : Nat) = 1 := by unfold dropE; rw [if_neg (by omega)]
      repeat refine LS.seq ?_
      refine LS.region rfl ?_
      refine OS.pure rfl (fun _ => rfl) rfl ?_
      refine OS.pure rfl (e_bools (fun _ => rfl) hb0) rfl ?_
      refine OS.pure rfl (fun _ => rfl) rfl ?_
      refine OS.pure rfl (fun _ => rfl) rfl ?_
      refine OS.pure rfl (fun _ => rfl) rfl ?_
      refine OS.pure rfl (fun _ => rfl) rfl ?_
      refine OS.pure rfl (fun _ => rfl) rfl ?_
      refine OS.read rfl (e_load 0 rfl rfl rfl rfl rfl) rfl ?_
      refine OS.pure rfl (fun _ => rfl) rfl ?_
      refine OS.pure rfl (e_bools (fun _ => rfl) hb1) rfl ?_
      refine OS.pure rfl (fun _ => rfl) rfl ?_
      refine OS.nil ?_
      refine LS.cond rfl (fun hc => ?_) (fun hc => by cases hc)
      repeat refine LS.seq ?_
      refine LS.region rfl ?_
      refine OS.pure rfl (fun _ => rfl) rfl ?_
      refine OS.nil ?_
      refine LS.ret ⟨_, fun _ _ => rfl, ?_⟩
      unfold dropS
      rw [hE]
      exact ⟨rfl, rfl⟩
  · have hb0 : (!ileB 0 i) = true := by rw [ileB_eq]; simp; omega
    have hE : dropE T i = 1 := by unfold dropE; rw [if_neg (by omega)]
    repeat refine LS.seq ?_
    refine LS.region rfl ?_
    refine OS.pure rfl (fun _ => rfl) rfl ?_
    refine OS.pure rfl (e_bools (fun _ => rfl) hb0) rfl ?_
    refine OS.pure rfl (fun _ => rfl) rfl ?_
    refine OS.skip rfl rfl ?_
    refine OS.skip rfl rfl ?_
    refine OS.skip rfl rfl ?_
    refine OS.skip rfl rfl ?_
    refine OS.skip rfl rfl ?_
    refine OS.skip rfl rfl ?_
    refine OS.skip rfl rfl ?_
    refine OS.pure rfl (fun _ => rfl) rfl ?_
    refine OS.nil ?_
    refine LS.cond rfl (fun hc => ?_) (fun hc => by cases hc)
    repeat refine LS.seq ?_
    refine LS.region rfl ?_
    refine OS.pure rfl (fun _ => rfl) rfl ?_
    refine OS.nil ?_
    refine LS.ret ⟨_, fun _ _ => rfl, ?_⟩
    unfold dropS
    rw [hE]
    exact ⟨rfl, rfl⟩
theorem rFree_ct (hT : T.length ≤ 32768) : CS Try.prog 25 [ptr rx] (rf rx rt c T F) fun v L' => v = .int .i64 (frees T : Nat) ∧ L' = rf rx rt c T F := by
  refine CS.mk (fn := Try.f25) rfl rfl rfl rfl ?_
  repeat refine LS.seq ?_
  refine LS.region rfl ?_
  refine OS.pure rfl (fun _ => rfl) rfl ?_
  refine OS.nil ?_
  repeat refine LS.seq ?_
  refine LS.region rfl ?_
  refine OS.pure rfl (fun _ => rfl) rfl ?_
  refine OS.nil ?_
  repeat refine LS.seq ?_
  refine LS.region rfl ?_
  refine OS.pure rfl (fun _ => rfl) rfl ?_
  refine OS.nil ?_
  repeat refine LS.seq ?_
  refine LS.block ?_
  refine LS.loopJ [0, 3, 4] (fun q a L' => ∃ i m, q = T.length - i ∧ i ≤ T.length ∧ m = freeTo T i ∧ L' = rf rx rt c T F ∧ a = [ptr rx, .chan none, .chan none, .int .i64 (m : Nat), .int .i64 (i : Nat), .chan none, .chan none, .chan none, .chan none, .chan none, .chan none, .chan none, .chan none, .chan none, .chan none, .chan none, .chan none, .chan none, .chan none, .chan none, .chan none, .chan none, .chan none, .chan none, .chan none]) (n := T.length) rfl ⟨0, 0, rfl, by omega, by simp [freeTo], rfl, rfl⟩ ?_
  rintro q a L' ⟨i, m, rfl, hi, hm, rfl, rfl⟩
  have hle := freeTo_le T i
  repeat refine LS.seq ?_
  refine LS.region rfl ?_
  refine OS.pure rfl (fun _ => rfl) rfl ?_
  refine OS.pure rfl (fun _ => rfl) rfl ?_
  refine OS.pure rfl (fun _ => rfl) rfl ?_
  refine OS.pure rfl (fun _ => rfl) rfl ?_
  refine OS.read rfl (e_load 0 rfl rfl rfl rfl rfl) rfl ?_
  refine OS.pure rfl (fun _ => rfl) rfl ?_
  refine OS.pure rfl (fun _ => rfl) rfl ?_
  refine OS.nil ?_
  repeat refine LS.seq ?_
  refine LS.cond rfl (fun hc => ?_) (fun hc => ?_)
  · have hc := lt_of hc
    have hil : i < T.length := by omega
    have hsucc := freeTo_succ T i
    refine LS.skip ?_
    repeat refine LS.seq ?_
    refine LS.mid [0, 3, 4] (fun a L' => ∃ m, m = freeTo T (i + 1) ∧ L' = rf rx rt c T F ∧ a = [ptr rx, .chan none, .chan none, .int .i64 (m : Nat), .int .i64 (i : Nat), .chan none, .chan none, .chan none, .chan none, .chan none, .chan none, .chan none, .chan none, .chan none, .chan none, .chan none, .chan none, .chan none, .chan none, .chan none, .chan none, .chan none, .chan none, .chan none, .chan none]) ?_ ?_
    · repeat refine LS.seq ?_
      refine LS.block ?_
      repeat refine LS.seq ?_
      refine LS.region rfl ?_
      refine OS.pure rfl (fun _ => rfl) rfl ?_
      refine OS.pure rfl (fun _ => rfl) rfl ?_
      refine OS.pure rfl (fun _ => rfl) rfl ?_
      refine OS.read rfl (e_load 0 rfl rfl rfl rfl rfl) rfl ?_
      refine OS.pure rfl (fun _ => rfl) rfl ?_
      refine OS.pure rfl (e_index (j := i) (sz := 1) rfl rfl rfl rfl rfl hil) rfl ?_
      refine OS.read rfl (e_load 1 rfl rfl rfl rfl (part_one rfl (bools_at hil))) rfl ?_
      cases ht : tkn T i
      · rw [ht] at hsucc
        refine OS.pure rfl (fun _ => rfl) rfl ?_
        refine OS.nil ?_
        refine LS.cond rfl (fun hc => ?_) (fun hc => by cases hc)
        repeat refine LS.seq ?_
        refine LS.region rfl ?_
        refine OS.pure rfl (fun _ => rfl) rfl ?_
        refine OS.pure rfl (e_add rfl rfl rfl (in_i64 (by omega) (by omega))) rfl ?_
        refine OS.pure rfl (fun _ => rfl) rfl ?_
        refine OS.nil ?_
        exact ⟨m + 1, by rw [hsucc, hm]; rfl, rfl, rfl⟩
      · rw [ht] at hsucc
        refine OS.pure rfl (fun _ => rfl) rfl ?_
        refine OS.nil ?_
        refine LS.cond rfl (fun hc => by cases hc) (fun hc => ?_)
        refine LS.skip ?_
        exact ⟨m, by rw [hsucc, hm]; rfl, rfl, rfl⟩
    rintro a L' ⟨m2, hm2, rfl, rfl⟩
    repeat refine LS.seq ?_
    refine LS.region rfl ?_
    refine OS.pure rfl (fun _ => rfl) rfl ?_
    refine OS.pure rfl (e_add rfl rfl rfl (in_i64 (by omega) (by omega))) rfl ?_
    refine OS.pure rfl (fun _ => rfl) rfl ?_
    refine OS.nil ?_
    exact ⟨T.length - (i + 1), by omega, i + 1, m2, rfl, by omega, hm2, rfl, rfl⟩
  · have hc := nlt_of hc
    have hil : i = T.length := by omega
    subst hil
    refine LS.exit ?_
    repeat refine LS.seq ?_
    refine LS.region rfl ?_
    refine OS.pure rfl (fun _ => rfl) rfl ?_
    refine OS.pure rfl (fun _ => rfl) rfl ?_
    refine OS.nil ?_
    refine LS.ret ⟨_, fun _ _ => rfl, ?_⟩
    rw [frees_eq, hm]
    exact ⟨rfl, rfl⟩
theorem rTaken_ct (hT : T.length ≤ 32768) (i : Int) : CS Try.prog 26 [ptr rx, .int .i64 i] (rf rx rt c T F) fun v L' => v = .bool (decide (0 ≤ i ∧ i < T.length) && tkn T i.toNat) ∧ L' = rf rx rt c T F := by
  refine CS.mk (fn := Try.f26) rfl rfl rfl rfl ?_
  repeat refine LS.seq ?_
  refine LS.region rfl ?_
  refine OS.pure rfl (fun _ => rfl) rfl ?_
  refine OS.nil ?_
  by_cases h0 : 0 ≤ i
  · have hb0 : ileB 0 i = true := ileB_iff.2 h0
    obtain ⟨j, rfl⟩ := Int.eq_ofNat_of_zero_le h0
    by_cases h1 : j < T.length
    · have hb1 : (!ileB (T.length : Int) (j : Int)) = true := by rw [ileB_eq]; simp; omega
      repeat refine LS.seq ?_
      refine LS.region rfl ?_
      refine OS.pure rfl (fun _ => rfl) rfl ?_
      refine OS.pure rfl (e_bools (fun _ => rfl) hb0) rfl ?_
      refine OS.pure rfl (fun _ => rfl) rfl ?_
      refine OS.pure rfl (fun _ => rfl) rfl ?_
      refine OS.pure rfl (fun _ => rfl) rfl ?_
      refine OS.pure rfl (fun _ => rfl) rfl ?_
      refine OS.pure rfl (fun _ => rfl) rfl ?_
      refine OS.read rfl (e_load 0 rfl rfl rfl rfl rfl) rfl ?_
      refine OS.pure rfl (fun _ => rfl) rfl ?_
      refine OS.pure rfl (e_bools (fun _ => rfl) hb1) rfl ?_
      refine OS.pure rfl (fun _ => rfl) rfl ?_
      refine OS.pure rfl (fun _ => rfl) rfl ?_
      refine OS.pure rfl (fun _ => rfl) rfl ?_
      refine OS.pure rfl (fun _ => rfl) rfl ?_
      refine OS.pure rfl (fun _ => rfl) rfl ?_
      refine OS.read rfl (e_load 0 rfl rfl rfl rfl rfl) rfl ?_
      refine OS.pure rfl (fun _ => rfl) rfl ?_
      refine OS.pure rfl (e_index (j := j) (sz := 1) rfl rfl rfl rfl rfl h1) rfl ?_
      refine OS.read rfl (e_load 1 rfl rfl rfl rfl (part_one rfl (bools_at h1))) rfl ?_
      refine OS.pure rfl (fun _ => rfl) rfl ?_
      refine OS.pure rfl (fun _ => rfl) rfl ?_
      refine OS.nil ?_
      refine LS.ret ⟨_, fun _ _ => rfl, ?_⟩
      rw [decide_eq_true (by omega), Int.toNat_natCast]
      exact ⟨rfl, rfl⟩
    · have hb1 : (!ileB (T.length : Int) (j : Int)) = false := by rw [ileB_eq]; simp; omega
      repeat refine LS.seq ?_
      refine LS.region rfl ?_
      refine OS.pure rfl (fun _ => rfl) rfl ?_
      refine OS.pure rfl (e_bools (fun _ => rfl) hb0) rfl ?_
      refine OS.pure rfl (fun _ => rfl) rfl ?_
      refine OS.pure rfl (fun _ => rfl) rfl ?_
      refine OS.pure rfl (fun _ => rfl) rfl ?_
      refine OS.pure rfl (fun _ => rfl) rfl ?_
      refine OS.pure rfl (fun _ => rfl) rfl ?_
      refine OS.read rfl (e_load 0 rfl rfl rfl rfl rfl) rfl ?_
      refine OS.pure rfl (fun _ => rfl) rfl ?_
      refine OS.pure rfl (e_bools (fun _ => rfl) hb1) rfl ?_
      refine OS.pure rfl (fun _ => rfl) rfl ?_
      refine OS.pure rfl (fun _ => rfl) rfl ?_
      refine OS.skip rfl rfl ?_
      refine OS.skip rfl rfl ?_
      refine OS.skip rfl rfl ?_
      refine OS.skip rfl rfl ?_
      refine OS.skip rfl rfl ?_
      refine OS.skip rfl rfl ?_
      refine OS.skip rfl rfl ?_
      refine OS.pure rfl (fun _ => rfl) rfl ?_
      refine OS.pure rfl (fun _ => rfl) rfl ?_
      refine OS.nil ?_
      refine LS.ret ⟨_, fun _ _ => rfl, ?_⟩
      rw [decide_eq_false (by omega)]
      exact ⟨rfl, rfl⟩
  · have hb0 : ileB 0 i = false := by rw [ileB_eq]; simp; omega
    repeat refine LS.seq ?_
    refine LS.region rfl ?_
    refine OS.pure rfl (fun _ => rfl) rfl ?_
    refine OS.pure rfl (e_bools (fun _ => rfl) hb0) rfl ?_
    refine OS.pure rfl (fun _ => rfl) rfl ?_
    refine OS.skip rfl rfl ?_
    refine OS.skip rfl rfl ?_
    refine OS.skip rfl rfl ?_
    refine OS.skip rfl rfl ?_
    refine OS.skip rfl rfl ?_
    refine OS.skip rfl rfl ?_
    refine OS.skip rfl rfl ?_
    refine OS.pure rfl (fun _ => rfl) rfl ?_
    refine OS.pure rfl (fun _ => rfl) rfl ?_
    refine OS.skip rfl rfl ?_
    refine OS.skip rfl rfl ?_
    refine OS.skip rfl rfl ?_
    refine OS.skip rfl rfl ?_
    refine OS.skip rfl rfl ?_
    refine OS.skip rfl rfl ?_
    refine OS.skip rfl rfl ?_
    refine OS.pure rfl (fun _ => rfl) rfl ?_
    refine OS.pure rfl (fun _ => rfl) rfl ?_
    refine OS.nil ?_
    refine LS.ret ⟨_, fun _ _ => rfl, ?_⟩
    rw [decide_eq_false (by omega)]
    exact ⟨rfl, rfl⟩
theorem rList_ct (hT : T.length ≤ 32768) : CS Try.prog 28 [ptr rx] (rf rx rt c T F) fun v L' => GV 3 1 (rf rx rt c T F) v (lst' T).length (ints (lst' T)) L' := by
  refine CS.mk (fn := Try.f28) rfl rfl rfl rfl ?_
  repeat refine LS.seq ?_
  refine LS.region rfl ?_
  refine OS.pure rfl (fun _ => rfl) rfl ?_
  refine OS.nil ?_
  repeat refine LS.seq ?_
  refine LS.region rfl ?_
  refine OS.pure rfl (fun _ => rfl) rfl ?_
  refine OS.nil ?_
  repeat refine LS.seq ?_
  refine LS.region rfl ?_
  refine OS.pure rfl (fun _ => rfl) rfl ?_
  refine OS.nil ?_
  repeat refine LS.seq ?_
  refine LS.block ?_
  refine LS.loopJ [0, 3, 4] (fun q a L' => ∃ i out, q = T.length - i ∧ i ≤ T.length ∧ GV 3 1 (rf rx rt c T F) out (lstTo T i).length (ints (lstTo T i)) L' ∧ a = [ptr rx, .chan none, .chan none, out, .int .i64 (i : Nat), .chan none, .chan none, .chan none, .chan none, .chan none, .chan none, .chan none, .chan none, .chan none, .chan none, .chan none, .chan none, .chan none, .chan none, .chan none, .chan none, .chan none, .chan none, .chan none, .chan none, .chan none]) (n := T.length) rfl ⟨0, _, rfl, by omega, .nil, rfl⟩ ?_
  rintro q a L' ⟨i, out, rfl, hi, hg, rfl⟩
  have hle := lstTo_len T i
  have hx : (rx, rfRow rt T.length c) ∈ L' := hg.mem _ (by simp)
  have hy : (rt, .cells 4 (bools T)) ∈ L' := hg.mem _ (by simp)
  repeat refine LS.seq ?_
  refine LS.region rfl ?_
  refine OS.pure rfl (fun _ => rfl) rfl ?_
  refine OS.pure rfl (fun _ => rfl) rfl ?_
  refine OS.pure rfl (fun _ => rfl) rfl ?_
  refine OS.pure rfl (fun _ => rfl) rfl ?_
  refine OS.read rfl (e_loadm hx rfl rfl rfl (part_one rfl rfl)) rfl ?_
  refine OS.pure rfl (fun _ => rfl) rfl ?_
  refine OS.pure rfl (fun _ => rfl) rfl ?_
  refine OS.nil ?_
  repeat refine LS.seq ?_
  refine LS.cond rfl (fun hc => ?_) (fun hc => ?_)
  · have hc := lt_of hc
    have hil : i < T.length := by omega
    have hsucc := lstTo_succ T i
    refine LS.skip ?_
    repeat refine LS.seq ?_
    refine LS.mid [0, 3, 4] (fun a L' => ∃ out, GV 3 1 (rf rx rt c T F) out (lstTo T (i + 1)).length (ints (lstTo T (i + 1))) L' ∧ a = [ptr rx, .chan none, .chan none, out, .int .i64 (i : Nat), .chan none, .chan none, .chan none, .chan none, .chan none, .chan none, .chan none, .chan none, .chan none, .chan none, .chan none, .chan none, .chan none, .chan none, .chan none, .chan none, .chan none, .chan none, .chan none, .chan none, .chan none]) ?_ ?_
    · repeat refine LS.seq ?_
      refine LS.block ?_
      repeat refine LS.seq ?_
      refine LS.region rfl ?_
      refine OS.pure rfl (fun _ => rfl) rfl ?_
      refine OS.pure rfl (fun _ => rfl) rfl ?_
      refine OS.pure rfl (fun _ => rfl) rfl ?_
      refine OS.read rfl (e_loadm hx rfl rfl rfl (part_one rfl rfl)) rfl ?_
      refine OS.pure rfl (fun _ => rfl) rfl ?_
      refine OS.pure rfl (e_index (j := i) (sz := 1) rfl rfl rfl rfl rfl hil) rfl ?_
      refine OS.read rfl (e_loadm hy rfl rfl rfl (part_one rfl (bools_at hil))) rfl ?_
      cases ht : tkn T i
      · rw [ht] at hsucc
        refine OS.nil ?_
        refine LS.cond rfl (fun hc => by cases hc) (fun hc => ?_)
        refine LS.skip ?_
        exact ⟨out, by rw [hsucc]; exact hg, rfl⟩
      · rw [ht, if_pos rfl] at hsucc
        refine OS.nil ?_
        refine LS.cond rfl (fun hc => ?_) (fun hc => by cases hc)
        repeat refine LS.seq ?_
        refine LS.region rfl ?_
        refine OS.pure rfl (fun _ => rfl) rfl ?_
        refine OS.pure rfl (fun _ => rfl) rfl ?_
        refine OS.fresh rfl (e_new (fun _ => rfl) rfl) (fun _ => rfl) (fun rn => ?_)
        refine OS.fresh rfl (e_appendGV [_] (m := 1) (sz := 1) (bts := 8) hg (SV.row (sz := 1) (n := 1) (List.mem_cons_self ..) rfl) (by omega) rfl rfl rfl rfl (by omega) (by omega)) (fun _ => rfl) (fun r2 => ?_)
        refine OS.pure rfl (fun _ => rfl) rfl ?_
        refine OS.sub (Sub.drop 1 rfl) ?_
        refine OS.nil ?_
        refine ⟨_, ?_, rfl⟩
        rw [hsucc, List.length_append, ints_snoc]
        exact GV.of (by rw [List.length_append, ints_len]; simp)
    rintro a L' ⟨out2, hg2, rfl⟩
    repeat refine LS.seq ?_
    refine LS.region rfl ?_
    refine OS.pure rfl (fun _ => rfl) rfl ?_
    refine OS.pure rfl (e_add rfl rfl rfl (in_i64 (by omega) (by omega))) rfl ?_
    refine OS.pure rfl (fun _ => rfl) rfl ?_
    refine OS.nil ?_
    exact ⟨T.length - (i + 1), by omega, i + 1, out2, rfl, by omega, hg2, rfl⟩
  · have hc := nlt_of hc
    have hil : i = T.length := by omega
    subst hil
    refine LS.exit ?_
    repeat refine LS.seq ?_
    refine LS.region rfl ?_
    refine OS.pure rfl (fun _ => rfl) rfl ?_
    refine OS.pure rfl (fun _ => rfl) rfl ?_
    refine OS.nil ?_
    refine LS.ret ⟨_, fun _ _ => rfl, ?_⟩
    exact hg
end
theorem Ints_ct {L : RL} {a b : Value} {xs : List Nat} (ha : SV 1 L a xs.length (ints xs)) (hb : SV 1 L b xs.length (ints xs)) (hm : xs.length ≤ 1000000) : CS Try.prog 27 [a, b] L fun v L' => v = .bool true ∧ L' = L := by
  refine CS.mk (fn := Try.f27) rfl rfl rfl rfl ?_
  repeat refine LS.seq ?_
  refine LS.region rfl ?_
  refine OS.pure rfl (fun _ => rfl) rfl ?_
  refine OS.nil ?_
  repeat refine LS.seq ?_
  refine LS.region rfl ?_
  refine OS.pure rfl (fun _ => rfl) rfl ?_
  refine OS.pure rfl (e_len ha rfl rfl rfl rfl rfl) rfl ?_
  refine OS.pure rfl (fun _ => rfl) rfl ?_
  refine OS.pure rfl (e_len hb rfl rfl rfl rfl rfl) rfl ?_
  refine OS.pure rfl (e_bools (fun _ => rfl) (ne_same _)) rfl ?_
  refine OS.nil ?_
  refine LS.cond rfl (fun hc => by cases hc) (fun hc => ?_)
  refine LS.skip ?_
  repeat refine LS.seq ?_
  refine LS.region rfl ?_
  refine OS.pure rfl (fun _ => rfl) rfl ?_
  refine OS.nil ?_
  repeat refine LS.seq ?_
  refine LS.block ?_
  refine LS.loopJ [0, 1, 5] (fun q s L' => ∃ i, q = xs.length - i ∧ i ≤ xs.length ∧ L' = L ∧ s = [a, b, .chan none, .chan none, .chan none, .int .i64 (i : Nat), .chan none, .chan none, .chan none, .chan none, .chan none, .chan none, .chan none, .chan none, .chan none, .chan none, .chan none, .chan none, .chan none, .chan none, .chan none, .chan none, .chan none, .chan none, .chan none, .chan none]) (n := xs.length) rfl ⟨0, rfl, by omega, rfl, rfl⟩ ?_
  rintro q s L' ⟨i, rfl, hi, hLL, rfl⟩
  subst hLL
  repeat refine LS.seq ?_
  refine LS.region rfl ?_
  refine OS.pure rfl (fun _ => rfl) rfl ?_
  refine OS.pure rfl (fun _ => rfl) rfl ?_
  refine OS.pure rfl (e_len ha rfl rfl rfl rfl rfl) rfl ?_
  refine OS.pure rfl (fun _ => rfl) rfl ?_
  refine OS.nil ?_
  repeat refine LS.seq ?_
  refine LS.cond rfl (fun hc => ?_) (fun hc => ?_)
  · have hc := lt_of hc
    have hil : i < xs.length := by omega
    refine LS.skip ?_
    repeat refine LS.seq ?_
    refine LS.block ?_
    repeat refine LS.seq ?_
    refine LS.drawn noGo mixed [(0, false), (1, false), (2, false), (3, false), (4, false), (5, false), (6, false), (7, false), (8, false)] rfl rfl (by kernel_rfl) ?_
    refine ODS.pure rfl rfl (fun _ => rfl) rfl ?_
    refine ODS.pure rfl rfl (fun _ => rfl) rfl ?_
    refine ODS.at1 (j := i) ha (ints_get hil) rfl rfl rfl rfl rfl rfl rfl (fun r0 o0 row0 cs0 m0 c0 g0 => ?_)
    refine ⟨_, rfl, ?_⟩
    refine ODS.read rfl rfl (e_loadm m0 c0 rfl rfl (part_one rfl g0)) rfl ?_
    refine ODS.pure rfl rfl (fun _ => rfl) rfl ?_
    refine ODS.pure rfl rfl (fun _ => rfl) rfl ?_
    refine ODS.at1 (j := i) hb (ints_get hil) rfl rfl rfl rfl rfl rfl rfl (fun r1 o1 row1 cs1 m1 c1 g1 => ?_)
    refine ⟨_, rfl, ?_⟩
    refine ODS.read rfl rfl (e_loadm m1 c1 rfl rfl (part_one rfl g1)) rfl ?_
    refine ODS.pure rfl rfl (e_bools (fun _ => rfl) (ne_same _)) rfl ?_
    refine ODS.nil ?_
    refine LS.cond rfl (fun hc => by cases hc) (fun hc => ?_)
    refine LS.skip ?_
    repeat refine LS.seq ?_
    refine LS.region rfl ?_
    refine OS.pure rfl (fun _ => rfl) rfl ?_
    refine OS.pure rfl (e_add rfl rfl rfl (in_i64 (by omega) (by omega))) rfl ?_
    refine OS.pure rfl (fun _ => rfl) rfl ?_
    refine OS.nil ?_
    exact ⟨xs.length - (i + 1), by omega, i + 1, rfl, by omega, rfl, rfl⟩
  · refine LS.exit ?_
    repeat refine LS.seq ?_
    refine LS.region rfl ?_
    refine OS.pure rfl (fun _ => rfl) rfl ?_
    refine OS.nil ?_
    refine LS.ret ⟨_, fun _ _ => rfl, ?_⟩
    exact ⟨rfl, rfl⟩
end Go.Proofs.Ytlifdkihjnnonaa
