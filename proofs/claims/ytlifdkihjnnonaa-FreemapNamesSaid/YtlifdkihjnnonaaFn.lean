/- Layer 5: FreemapNames; what is asked of nil. -/
import Derived.Test.YtlifdkihjnnonaaFi
namespace Go.Am
/-- A call that needs no rows, and tells no address. -/
theorem CS.closedP {P : Program} (hg : noGo P = true) (hmix : P.follows .mixedOrders = true) {fuel depth : Nat} {f : FuncId} {args : List Value} {v : Value} {L : RL}
    (ha : allPlain args = true) (hv : Am.plain v = true) (e : (callB P nothing fuel depth f args AW.empty).map (·.1) = some v) : CS P f args L fun v' L' => v' = v ∧ L' = L := by
  obtain ⟨⟨v0, h₁⟩, e', rfl⟩ := Option.map_eq_some_iff.1 e
  intro h H
  have s := callB_sound hg hmix nothing_sound fuel depth f args AW.empty v0 h₁ e'
  refine ⟨s.1, fun ρ us w hus HR => ?_⟩
  have hus' := hus.plain_eq ha
  subst hus'
  refine (s.2 (fun _ => none) us w (.of_plain ha) (empty_rel w)).mono ?_
  rintro en w' ⟨u, ρ', rfl, hvu, H', T⟩
  have hu := hvu.plain_eq hv
  subst hu
  have keep : ∀ k, k < w.heap.size → w'.heap[k]? = w.heap[k]? := fun k hk => T.keep k hk fun r row l hr => (by cases hr)
  refine ⟨u, h, u, ρ, rfl, ⟨L, ⟨rfl, rfl⟩, H⟩, .of_plain hv, ⟨fun r row hr => ?_, HR.inj, HR.fresh, HR.step⟩, ⟨Env.le_refl _, T.os, T.tape, T.output, T.size, fun r row l hr ho hl _ => ⟨r, row, l, hr, ho, hl, rfl⟩, fun k hk _ => keep k hk, fun _ _ e => .inl e, ⟨0, by simp⟩, rfl⟩⟩
  obtain ⟨l, hl, hr'⟩ := HR.loc r row hr
  exact ⟨l, hl, hr'.keep (Env.le_refl _) (keep _ hr'.lt)⟩
end Go.Am
namespace Go.Proofs.Ytlifdkihjnnonaa
open Go.Am
set_option linter.unusedVariables false
set_option maxRecDepth 20000

section
variable {L : RL}
theorem nTake_ct : CS Try.prog 10 [.pointer none] L fun v L' => v = .tuple #[.int .i64 0, .int .i64 2] ∧ L' = L := CS.closedP noGo mixed (fuel := 50) (depth := 10) rfl rfl (by kernel_rfl)
theorem nLen_ct : CS Try.prog 17 [.pointer none] L fun v L' => v = .int .i64 0 ∧ L' = L := CS.closedP noGo mixed (fuel := 50) (depth := 10) rfl rfl (by kernel_rfl)
theorem nFree_ct : CS Try.prog 12 [.pointer none] L fun v L' => v = .int .i64 0 ∧ L' = L := CS.closedP noGo mixed (fuel := 50) (depth := 10) rfl rfl (by kernel_rfl)
theorem nBytes_ct : CS Try.prog 16 [.pointer none] L fun v L' => v = .slice none 0 0 ∧ L' = L := CS.closedP noGo mixed (fuel := 50) (depth := 10) rfl rfl (by kernel_rfl)
theorem nTaken_ct : CS Try.prog 15 [.pointer none, .int .i64 0] L fun v L' => v = .bool false ∧ L' = L := CS.closedP noGo mixed (fuel := 50) (depth := 10) rfl rfl (by kernel_rfl)
theorem nClaim_ct : CS Try.prog 14 [.pointer none, .int .i64 0] L fun v L' => v = .int .i64 2 ∧ L' = L := CS.closedP noGo mixed (fuel := 50) (depth := 10) rfl rfl (by kernel_rfl)
theorem nDrop_ct : CS Try.prog 13 [.pointer none, .int .i64 0] L fun v L' => v = .int .i64 2 ∧ L' = L := CS.closedP noGo mixed (fuel := 50) (depth := 10) rfl rfl (by kernel_rfl)
theorem nCopy_ct : CS Try.prog 19 [.pointer none] L fun v L' => v = .pointer none ∧ L' = L := CS.closedP noGo mixed (fuel := 50) (depth := 10) rfl rfl (by kernel_rfl)
end
theorem nList_ct {L : RL} : CS Try.prog 18 [.pointer none] L fun v L' => v = .slice none 0 0 ∧ L' = L := by
  refine CS.mk (fn := Try.f18) rfl rfl rfl rfl ?_
  repeat refine LS.seq ?_
  refine LS.region rfl ?_
  refine OS.pure rfl (fun _ => rfl) rfl ?_
  refine OS.nil ?_
  repeat refine LS.seq ?_
  refine LS.region rfl ?_
  refine OS.fresh rfl (e_new (fun _ => rfl) rfl) (fun _ => rfl) (fun rl => ?_)
  refine OS.nil ?_
  have htk : ∀ F : RL, CS Try.prog 44 [.pointer none] F fun v L' => ∃ rbx, v = .func (.func 55) #[] #[ptr rbx] ∧ L' = (rbx, .cells 23 [.pointer none]) :: F := fun F => by
    refine CS.mk (fn := Try.f44) rfl rfl rfl rfl ?_
    repeat refine LS.seq ?_
    refine LS.region rfl ?_
    refine OS.fresh rfl (e_new (fun _ => rfl) rfl) (fun _ => rfl) (fun rbx => ?_)
    refine OS.pure rfl (fun _ => rfl) rfl ?_
    refine OS.nil ?_
    repeat refine LS.seq ?_
    refine LS.region rfl ?_
    refine OS.pure rfl (fun _ => rfl) rfl ?_
    refine OS.pure rfl (fun _ => rfl) rfl ?_
    refine OS.nil ?_
    refine LS.ret ⟨_, fun _ _ => rfl, ?_⟩
    exact ⟨rbx, rfl, rfl⟩
  repeat refine LS.seq ?_
  refine LS.region rfl ?_
  refine OS.pure rfl (fun _ => rfl) rfl ?_
  refine OS.call noGo rfl (fun _ => rfl) ((htk _).mono ?_)
  rintro v L' ⟨rbx, rfl, rfl⟩
  refine ⟨_, rfl, ?_⟩
  refine OS.nil ?_
  repeat refine LS.seq ?_
  refine LS.block ?_
  refine LS.rangeFunc noGo rfl (fun r => ?_)
  generalize hp0 : LP.start _ _ _ _ = p0
  have hit : CS Try.prog 55 [.func (.yield r) #[] #[], ptr rbx] ((r, .loop p0) :: (rbx, .cells 23 [.pointer none]) :: (rl, .cells 35 [.slice none 0 0]) :: L) fun v L' => L' = (r, .loop p0) :: (rbx, .cells 23 [.pointer none]) :: (rl, .cells 35 [.slice none 0 0]) :: L := by
    refine CS.mk (fn := Try.f55) rfl rfl rfl rfl ?_
    repeat refine LS.seq ?_
    refine LS.region rfl ?_
    refine OS.read rfl (e_load 1 rfl rfl rfl rfl rfl) rfl ?_
    refine OS.call noGo rfl (fun _ => rfl) ((nLen_ct).mono ?_)
    rintro v L' ⟨rfl, rfl⟩
    refine ⟨_, rfl, ?_⟩
    refine OS.pure rfl (fun _ => rfl) rfl ?_
    refine OS.nil ?_
    repeat refine LS.seq ?_
    refine LS.block ?_
    refine LS.loopJ [0, 1, 5, 6] (fun q a L' => L' = (r, .loop p0) :: (rbx, .cells 23 [.pointer none]) :: (rl, .cells 35 [.slice none 0 0]) :: L ∧ a = [.func (.yield r) #[] #[], ptr rbx, .chan none, .chan none, .chan none, .int .i64 0, .int .i64 0, .chan none, .chan none, .chan none, .chan none, .chan none, .chan none, .chan none, .chan none, .chan none, .chan none, .chan none, .chan none]) (n := 0) rfl ⟨rfl, rfl⟩ ?_
    rintro q a L' ⟨rfl, rfl⟩
    repeat refine LS.seq ?_
    refine LS.region rfl ?_
    refine OS.pure rfl (fun _ => rfl) rfl ?_
    refine OS.nil ?_
    repeat refine LS.seq ?_
    refine LS.cond rfl (fun hc => by cases hc) (fun hc => ?_)
    refine LS.exit ?_
    exact ⟨_, fun _ _ => rfl, rfl⟩
  refine hit.mono ?_
  rintro v L' rfl
  refine ⟨0, p0, _, rfl, rfl, by subst hp0; simp [LP.start], ?_⟩
  have hpend : p0.pending = none := by subst hp0; rfl
  rw [hpend]
  show LSr _ _ _ _ _ _
  repeat refine LS.seq ?_
  refine LS.region rfl ?_
  refine OS.read rfl (e_load 1 rfl rfl rfl rfl (part_one rfl rfl)) rfl ?_
  refine OS.pure rfl (fun _ => rfl) rfl ?_
  refine OS.sub (Sub.drop 0 rfl) ?_
  refine OS.sub (Sub.drop 0 rfl) ?_
  refine OS.nil ?_
  refine LS.ret ⟨_, fun _ _ => rfl, ?_⟩
  exact ⟨rfl, rfl⟩

theorem isMap_gat {bs : List UInt8} {T : List Bool} (h : isMap bs T) : gat bs = (T.length, (grp T.length).length) ∧ bs.drop (gat bs).2 = pk T := by
  obtain ⟨h1, rfl⟩ := h
  have e1 : gat (mb T) = (T.length, (grp T.length).length) := gat_some (by omega) (List.prefix_append _ _)
  refine ⟨e1, ?_⟩
  rw [e1]
  exact List.drop_left
theorem no_map1 (T : List Bool) : ¬ isMap [10, 7, 4] T := fun h => by
  obtain ⟨h1, h2⟩ := isMap_gat h
  rw [show gat [10, 7, 4] = (10, 1) by decide] at h1 h2
  simp only [Prod.mk.injEq] at h1
  have := pk_bit T 10
  rw [← h2, tkn_out (by omega)] at this
  revert this
  decide
theorem no_map2 (T : List Bool) : ¬ isMap [10, 7] T := fun h => by
  obtain ⟨h1, h2⟩ := isMap_gat h
  rw [show gat [10, 7] = (10, 1) by decide] at h1 h2
  simp only [Prod.mk.injEq] at h1
  have := congrArg List.length h2
  rw [pk_len, ← h1.1] at this
  revert this
  decide
theorem no_map3 (T : List Bool) : ¬ isMap [10, 7, 2, 0] T := fun h => by
  obtain ⟨h1, h2⟩ := isMap_gat h
  rw [show gat [10, 7, 2, 0] = (10, 1) by decide] at h1 h2
  simp only [Prod.mk.injEq] at h1
  have := congrArg List.length h2
  rw [pk_len, ← h1.1] at this
  revert this
  decide
theorem no_map4 (T : List Bool) : ¬ isMap [128, 0] T := fun h => by
  obtain ⟨h1, h2⟩ := isMap_gat h
  rw [show gat [128, 0] = (0, 0) by decide] at h1
  simp only [Prod.mk.injEq] at h1
  have := grp_pos T.length
  omega
theorem no_map5 (T : List Bool) : ¬ isMap [] T := fun h => by
  obtain ⟨h1, h2⟩ := isMap_gat h
  rw [show gat [] = (0, 0) by decide] at h1
  simp only [Prod.mk.injEq] at h1
  have := grp_pos T.length
  omega
def o10 : List Bool := List.replicate 10 true
theorem map_o : isMap [10, 255, 3] o10 := by
  refine ⟨by decide, ?_⟩
  unfold mb
  rw [show o10.length = 10 by decide, grp_lt (by decide)]
  decide
theorem mb_nil : mb [] = [0] := by
  unfold mb
  rw [List.length_nil, grp_lt (by decide)]
  decide
theorem out_f {T : List Bool} {i : Int} (h : ¬ (0 ≤ i ∧ i < T.length)) : (decide (0 ≤ i ∧ i < T.length) && tkn T i.toNat) = false := by rw [decide_eq_false h]; rfl

theorem loads_no {L : RL} {v : Value} {bs : List UInt8} (hno : ∀ T, ¬ isMap bs T) (hb : BV L v bs) (hn : bs.length ≤ 400000000000) : CS Try.prog 11 [v] L fun v L' => v = .tuple #[.pointer none, .int .i64 4] ∧ L' = L :=
  (Load_ct hb hn).mono fun v' L' h => by
    rcases h with ⟨T, _, _, h, _⟩ | ⟨_, h1, h2⟩
    · exact absurd h (hno T)
    · exact ⟨h1, h2⟩
theorem bv_lit {L : RL} {r : Nat} {bs : List UInt8} (hl : bs.length < openCap) : BV ((r, .cells 5 (byteCells bs)) :: L) (.slice (some ⟨r, 0, none⟩) bs.length bs.length) bs :=
  .inr ⟨SV.row (e := 5) (by simp) (by rw [byteCells_len]; omega), fun r off cap h => by cases h; exact ⟨hl, Nat.le_refl _⟩⟩

set_option maxHeartbeats 1000000 in
theorem names_ct : CS Try.prog 3 [] [] fun v' _ => v' = .bool true := by
  refine CS.mk (fn := Try.f3) rfl rfl rfl rfl ?_
  repeat refine LS.seq ?_
  refine LS.region rfl ?_
  refine OS.pure rfl (fun _ => rfl) rfl ?_
  refine OS.nil ?_
  repeat refine LS.seq ?_
  refine LS.region rfl ?_
  refine OS.call noGo rfl (fun _ => rfl) ((works_ct).mono ?_)
  rintro v L' ⟨rfl, rfl⟩
  refine ⟨_, rfl, ?_⟩
  refine OS.pure rfl (fun _ => rfl) rfl ?_
  refine OS.pure rfl (fun _ => rfl) rfl ?_
  refine OS.pure rfl (fun _ => rfl) rfl ?_
  refine OS.pure rfl (fun _ => rfl) rfl ?_
  refine OS.pure rfl (fun _ => rfl) rfl ?_
  refine OS.pure rfl (fun _ => rfl) rfl ?_
  refine OS.pure rfl (fun _ => rfl) rfl ?_
  refine OS.pure rfl (fun _ => rfl) rfl ?_
  refine OS.pure rfl (fun _ => rfl) rfl ?_
  refine OS.pure rfl (fun _ => rfl) rfl ?_
  refine OS.pure rfl (fun _ => rfl) rfl ?_
  refine OS.pure rfl (fun _ => rfl) rfl ?_
  refine OS.pure rfl (fun _ => rfl) rfl ?_
  refine OS.nil ?_
  refine LS.cond rfl (fun hc => by cases hc) (fun hc => ?_)
  refine LS.skip ?_
  repeat refine LS.seq ?_
  refine LS.region rfl ?_
  refine OS.call noGo rfl (fun _ => rfl) ((New_wrong (-1) (.inl (by decide))).mono ?_)
  rintro v L' ⟨rfl, rfl⟩
  refine ⟨_, rfl, ?_⟩
  refine OS.pure rfl (fun _ => rfl) rfl ?_
  refine OS.pure rfl (fun _ => rfl) rfl ?_
  refine OS.pure rfl (fun _ => rfl) rfl ?_
  refine OS.pure rfl (fun _ => rfl) rfl ?_
  refine OS.pure rfl (fun _ => rfl) rfl ?_
  refine OS.nil ?_
  repeat refine LS.seq ?_
  refine LS.region rfl ?_
  refine OS.call noGo rfl (fun _ => rfl) ((New_wrong 32769 (.inr (by decide))).mono ?_)
  rintro v L' ⟨rfl, rfl⟩
  refine ⟨_, rfl, ?_⟩
  refine OS.pure rfl (fun _ => rfl) rfl ?_
  refine OS.pure rfl (fun _ => rfl) rfl ?_
  refine OS.pure rfl (fun _ => rfl) rfl ?_
  refine OS.pure rfl (fun _ => rfl) rfl ?_
  refine OS.pure rfl (fun _ => rfl) rfl ?_
  refine OS.nil ?_
  repeat refine LS.seq ?_
  refine LS.region rfl ?_
  refine OS.call noGo rfl (fun _ => rfl) ((New_ct 32768 (by decide)).mono ?_)
  rintro v L' ⟨rm, rb, rfl, rfl⟩
  generalize hM : List.replicate 32768 false = M
  have hMl : M.length = 32768 := by rw [← hM]; exact List.length_replicate
  have hMf : frees M = 32768 := by rw [← hM]; exact frees_zeros _
  have hMt : ∀ i, tkn M i = false := fun i => by rw [← hM]; exact tkn_zeros _ _
  clear hM
  refine ⟨_, rfl, ?_⟩
  refine OS.pure rfl (fun _ => rfl) rfl ?_
  refine OS.pure rfl (fun _ => rfl) rfl ?_
  refine OS.pure rfl (fun _ => rfl) rfl ?_
  refine OS.pure rfl (fun _ => rfl) rfl ?_
  refine OS.pure rfl (fun _ => rfl) rfl ?_
  refine OS.nil ?_
  repeat refine LS.seq ?_
  refine LS.region rfl ?_
  refine OS.call noGo rfl (fun _ => rfl) ((New_ct 0 (by decide)).mono ?_)
  rintro v L' ⟨rz, rzb, rfl, rfl⟩
  rw [show List.replicate 0 false = [] from rfl]
  refine ⟨_, rfl, ?_⟩
  refine OS.pure rfl (fun _ => rfl) rfl ?_
  refine OS.pure rfl (fun _ => rfl) rfl ?_
  refine OS.pure rfl (fun _ => rfl) rfl ?_
  refine OS.pure rfl (fun _ => rfl) rfl ?_
  refine OS.pure rfl (fun _ => rfl) rfl ?_
  refine OS.nil ?_
  repeat refine LS.seq ?_
  refine LS.region rfl ?_
  refine OS.pure rfl (fun _ => rfl) rfl ?_
  refine OS.call noGo rfl (fun _ => rfl) ((Take_ct (T := []) (by decide)).mono ?_)
  rintro v L' ⟨rfl, rfl⟩
  rw [show takeI [] = 0 by decide, show takeE [] = 3 by decide, show takeS [] = [] by decide]
  refine ⟨_, rfl, ?_⟩
  refine OS.pure rfl (fun _ => rfl) rfl ?_
  refine OS.pure rfl (fun _ => rfl) rfl ?_
  refine OS.pure rfl (fun _ => rfl) rfl ?_
  refine OS.pure rfl (fun _ => rfl) rfl ?_
  refine OS.pure rfl (fun _ => rfl) rfl ?_
  refine OS.nil ?_
  repeat refine LS.seq ?_
  refine LS.region rfl ?_
  refine OS.fresh rfl (e_new (fun _ => rfl) rfl) (fun _ => rfl) (fun r => ?_)
  refine OS.call noGo rfl (fun _ => rfl) ((loads_no (bs := [10, 7, 4]) no_map1 (bv_lit (by decide)) (by decide)).mono ?_)
  rintro v L' ⟨rfl, rfl⟩
  refine ⟨_, rfl, ?_⟩
  refine OS.pure rfl (fun _ => rfl) rfl ?_
  refine OS.pure rfl (fun _ => rfl) rfl ?_
  refine OS.pure rfl (fun _ => rfl) rfl ?_
  refine OS.pure rfl (fun _ => rfl) rfl ?_
  refine OS.pure rfl (fun _ => rfl) rfl ?_
  refine OS.sub (Sub.drop 0 rfl) ?_
  refine OS.nil ?_
  repeat refine LS.seq ?_
  refine LS.region rfl ?_
  refine OS.fresh rfl (e_new (fun _ => rfl) rfl) (fun _ => rfl) (fun r => ?_)
  refine OS.call noGo rfl (fun _ => rfl) ((loads_no (bs := [10, 7]) no_map2 (bv_lit (by decide)) (by decide)).mono ?_)
  rintro v L' ⟨rfl, rfl⟩
  refine ⟨_, rfl, ?_⟩
  refine OS.pure rfl (fun _ => rfl) rfl ?_
  refine OS.pure rfl (fun _ => rfl) rfl ?_
  refine OS.pure rfl (fun _ => rfl) rfl ?_
  refine OS.pure rfl (fun _ => rfl) rfl ?_
  refine OS.pure rfl (fun _ => rfl) rfl ?_
  refine OS.sub (Sub.drop 0 rfl) ?_
  refine OS.nil ?_
  repeat refine LS.seq ?_
  refine LS.region rfl ?_
  refine OS.fresh rfl (e_new (fun _ => rfl) rfl) (fun _ => rfl) (fun r => ?_)
  refine OS.call noGo rfl (fun _ => rfl) ((loads_no (bs := [10, 7, 2, 0]) no_map3 (bv_lit (by decide)) (by decide)).mono ?_)
  rintro v L' ⟨rfl, rfl⟩
  refine ⟨_, rfl, ?_⟩
  refine OS.pure rfl (fun _ => rfl) rfl ?_
  refine OS.pure rfl (fun _ => rfl) rfl ?_
  refine OS.pure rfl (fun _ => rfl) rfl ?_
  refine OS.pure rfl (fun _ => rfl) rfl ?_
  refine OS.pure rfl (fun _ => rfl) rfl ?_
  refine OS.sub (Sub.drop 0 rfl) ?_
  refine OS.nil ?_
  repeat refine LS.seq ?_
  refine LS.region rfl ?_
  refine OS.fresh rfl (e_new (fun _ => rfl) rfl) (fun _ => rfl) (fun r => ?_)
  refine OS.call noGo rfl (fun _ => rfl) ((loads_no (bs := [128, 0]) no_map4 (bv_lit (by decide)) (by decide)).mono ?_)
  rintro v L' ⟨rfl, rfl⟩
  refine ⟨_, rfl, ?_⟩
  refine OS.pure rfl (fun _ => rfl) rfl ?_
  refine OS.pure rfl (fun _ => rfl) rfl ?_
  refine OS.pure rfl (fun _ => rfl) rfl ?_
  refine OS.pure rfl (fun _ => rfl) rfl ?_
  refine OS.pure rfl (fun _ => rfl) rfl ?_
  refine OS.sub (Sub.drop 0 rfl) ?_
  refine OS.nil ?_
  repeat refine LS.seq ?_
  refine LS.region rfl ?_
  refine OS.call noGo rfl (fun _ => rfl) ((loads_no (bs := []) no_map5 (.inl (.inl ⟨rfl, rfl⟩)) (by decide)).mono ?_)
  rintro v L' ⟨rfl, rfl⟩
  refine ⟨_, rfl, ?_⟩
  refine OS.pure rfl (fun _ => rfl) rfl ?_
  refine OS.pure rfl (fun _ => rfl) rfl ?_
  refine OS.pure rfl (fun _ => rfl) rfl ?_
  refine OS.pure rfl (fun _ => rfl) rfl ?_
  refine OS.pure rfl (fun _ => rfl) rfl ?_
  refine OS.nil ?_
  repeat refine LS.seq ?_
  refine LS.region rfl ?_
  refine OS.fresh rfl (e_new (fun _ => rfl) rfl) (fun _ => rfl) (fun r => ?_)
  refine OS.call noGo rfl (fun _ => rfl) ((Load_ct (bs := [10, 255, 3]) (bv_lit (by decide)) (by decide)).mono ?_)
  rintro v L' (⟨T, ro, rob, hT, rfl, rfl⟩ | ⟨hno, _⟩)
  case inr => exact absurd map_o (hno _)
  have hTo := isMap_uniq hT map_o
  subst hTo
  refine ⟨_, rfl, ?_⟩
  refine OS.pure rfl (fun _ => rfl) rfl ?_
  refine OS.pure rfl (fun _ => rfl) rfl ?_
  refine OS.pure rfl (fun _ => rfl) rfl ?_
  refine OS.pure rfl (fun _ => rfl) rfl ?_
  refine OS.pure rfl (fun _ => rfl) rfl ?_
  refine OS.sub (Sub.drop 2 rfl) ?_
  refine OS.nil ?_
  repeat refine LS.seq ?_
  refine LS.region rfl ?_
  refine OS.pure rfl (fun _ => rfl) rfl ?_
  refine OS.call noGo rfl (fun _ => rfl) ((Take_ct (T := o10) (by decide)).mono ?_)
  rintro v L' ⟨rfl, rfl⟩
  rw [show takeI o10 = 0 by decide, show takeE o10 = 3 by decide, show takeS o10 = o10 by decide]
  refine ⟨_, rfl, ?_⟩
  refine OS.pure rfl (fun _ => rfl) rfl ?_
  refine OS.pure rfl (fun _ => rfl) rfl ?_
  refine OS.pure rfl (fun _ => rfl) rfl ?_
  refine OS.pure rfl (fun _ => rfl) rfl ?_
  refine OS.pure rfl (fun _ => rfl) rfl ?_
  refine OS.nil ?_
  have hd5 : dropE M 5 = 5 := by unfold dropE; rw [if_pos (by omega), hMt]; rfl
  have hd6 : dropE M 32768 = 1 := by unfold dropE; rw [if_neg (by omega)]
  have hd7 : dropE M (-1) = 1 := by unfold dropE; rw [if_neg (by omega)]
  have hs5 : dropS M 5 = M := by unfold dropS; rw [hd5]; rfl
  have hs6 : dropS M 32768 = M := by unfold dropS; rw [hd6]; rfl
  have hs7 : dropS M (-1) = M := by unfold dropS; rw [hd7]; rfl
  have hc1 : claimE M 32767 = 0 := by unfold claimE; rw [if_pos (by omega), hMt]; rfl
  have hcf := claim_frees M 32767
  rw [hc1, if_pos rfl] at hcf
  have hc2 : tkn (claimS M 32767) 32767 = true := by
    unfold claimS
    rw [if_pos hc1, show ((32767 : Int).toNat) = 32767 from rfl, tkn_set (by omega), if_pos rfl]
  have hcl := claimS_len M 32767
  generalize hM2 : claimS M 32767 = M2 at hcf hc2 hcl
  have hc3 : claimE M2 (-1) = 1 := by unfold claimE; rw [if_neg (by omega)]
  have hc4 : claimS M2 (-1) = M2 := by unfold claimS; rw [hc3]; rfl
  have hfr : frees M2 = 32767 := by omega
  repeat refine LS.seq ?_
  refine LS.region rfl ?_
  refine OS.pure rfl (fun _ => rfl) rfl ?_
  refine OS.pure rfl (fun _ => rfl) rfl ?_
  refine OS.pure rfl (fun _ => rfl) rfl ?_
  refine OS.pure rfl (fun _ => rfl) rfl ?_
  refine OS.pure rfl (fun _ => rfl) rfl ?_
  refine OS.pure rfl (fun _ => rfl) rfl ?_
  refine OS.pure rfl (fun _ => rfl) rfl ?_
  refine OS.pure rfl (fun _ => rfl) rfl ?_
  refine OS.pure rfl (fun _ => rfl) rfl ?_
  refine OS.pure rfl (fun _ => rfl) rfl ?_
  refine OS.pure rfl (fun _ => rfl) rfl ?_
  refine OS.pure rfl (fun _ => rfl) rfl ?_
  refine OS.pure rfl (fun _ => rfl) rfl ?_
  refine OS.pure rfl (fun _ => rfl) rfl ?_
  refine OS.pure rfl (fun _ => rfl) rfl ?_
  refine OS.pure rfl (fun _ => rfl) rfl ?_
  refine OS.pure rfl (fun _ => rfl) rfl ?_
  refine OS.pure rfl (fun _ => rfl) rfl ?_
  refine OS.pure rfl (fun _ => rfl) rfl ?_
  refine OS.pure rfl (fun _ => rfl) rfl ?_
  refine OS.pure rfl (fun _ => rfl) rfl ?_
  refine OS.pure rfl (fun _ => rfl) rfl ?_
  refine OS.pure rfl (fun _ => rfl) rfl ?_
  refine OS.pure rfl (fun _ => rfl) rfl ?_
  refine OS.pure rfl (fun _ => rfl) rfl ?_
  refine OS.pure rfl (fun _ => rfl) rfl ?_
  refine OS.pure rfl (fun _ => rfl) rfl ?_
  refine OS.pure rfl (fun _ => rfl) rfl ?_
  refine OS.pure rfl (fun _ => rfl) rfl ?_
  refine OS.pure rfl (fun _ => rfl) rfl ?_
  refine OS.pure rfl (fun _ => rfl) rfl ?_
  refine OS.pure rfl (fun _ => rfl) rfl ?_
  refine OS.pure rfl (fun _ => rfl) rfl ?_
  refine OS.pure rfl (fun _ => rfl) rfl ?_
  refine OS.pure rfl (fun _ => rfl) rfl ?_
  refine OS.pure rfl (fun _ => rfl) rfl ?_
  refine OS.pure rfl (fun _ => rfl) rfl ?_
  refine OS.pure rfl (fun _ => rfl) rfl ?_
  refine OS.pure rfl (fun _ => rfl) rfl ?_
  refine OS.pure rfl (fun _ => rfl) rfl ?_
  refine OS.pure rfl (fun _ => rfl) rfl ?_
  refine OS.pure rfl (fun _ => rfl) rfl ?_
  refine OS.pure rfl (fun _ => rfl) rfl ?_
  refine OS.pure rfl (fun _ => rfl) rfl ?_
  refine OS.call noGo rfl (fun _ => rfl) ((Free_ct (T := o10) (by decide)).mono ?_)
  rintro v L' ⟨rfl, rfl⟩
  rw [show frees o10 = 0 by decide]
  refine ⟨_, rfl, ?_⟩
  refine OS.pure rfl (fun _ => rfl) rfl ?_
  refine OS.pure rfl (fun _ => rfl) rfl ?_
  refine OS.pure rfl (fun _ => rfl) rfl ?_
  refine OS.pure rfl (fun _ => rfl) rfl ?_
  refine OS.pure rfl (fun _ => rfl) rfl ?_
  refine OS.pure rfl (fun _ => rfl) rfl ?_
  refine OS.pure rfl (fun _ => rfl) rfl ?_
  refine OS.pure rfl (fun _ => rfl) rfl ?_
  refine OS.sub (Sub.pulls [5, 5] rfl) ?_
  refine OS.call noGo rfl (fun _ => rfl) ((Drop_ct (T := M) (by omega) 5).mono ?_)
  rintro v L' ⟨rfl, rfl⟩
  rw [hd5, hs5]
  refine ⟨_, rfl, ?_⟩
  refine OS.pure rfl (fun _ => rfl) rfl ?_
  refine OS.pure rfl (fun _ => rfl) rfl ?_
  refine OS.pure rfl (fun _ => rfl) rfl ?_
  refine OS.pure rfl (fun _ => rfl) rfl ?_
  refine OS.call noGo rfl (fun _ => rfl) ((Drop_ct (T := M) (by omega) 32768).mono ?_)
  rintro v L' ⟨rfl, rfl⟩
  rw [hd6, hs6]
  refine ⟨_, rfl, ?_⟩
  refine OS.pure rfl (fun _ => rfl) rfl ?_
  refine OS.pure rfl (fun _ => rfl) rfl ?_
  refine OS.pure rfl (fun _ => rfl) rfl ?_
  refine OS.pure rfl (fun _ => rfl) rfl ?_
  refine OS.call noGo rfl (fun _ => rfl) ((Drop_ct (T := M) (by omega) (-1)).mono ?_)
  rintro v L' ⟨rfl, rfl⟩
  rw [hd7, hs7]
  refine ⟨_, rfl, ?_⟩
  refine OS.pure rfl (fun _ => rfl) rfl ?_
  refine OS.pure rfl (fun _ => rfl) rfl ?_
  refine OS.pure rfl (fun _ => rfl) rfl ?_
  refine OS.pure rfl (fun _ => rfl) rfl ?_
  refine OS.call noGo rfl (fun _ => rfl) ((Claim_ct (T := M) (by omega) 32767).mono ?_)
  rintro v L' ⟨rfl, rfl⟩
  rw [hc1, hM2]
  refine ⟨_, rfl, ?_⟩
  refine OS.pure rfl (fun _ => rfl) rfl ?_
  refine OS.pure rfl (fun _ => rfl) rfl ?_
  refine OS.pure rfl (fun _ => rfl) rfl ?_
  refine OS.pure rfl (fun _ => rfl) rfl ?_
  refine OS.call noGo rfl (fun _ => rfl) ((Claim_ct (T := M2) (by omega) (-1)).mono ?_)
  rintro v L' ⟨rfl, rfl⟩
  rw [hc3, hc4]
  refine ⟨_, rfl, ?_⟩
  refine OS.pure rfl (fun _ => rfl) rfl ?_
  refine OS.pure rfl (fun _ => rfl) rfl ?_
  refine OS.pure rfl (fun _ => rfl) rfl ?_
  refine OS.pure rfl (fun _ => rfl) rfl ?_
  refine OS.call noGo rfl (fun _ => rfl) ((Free_ct (T := M2) (by omega)).mono ?_)
  rintro v L' ⟨rfl, rfl⟩
  rw [hfr]
  refine ⟨_, rfl, ?_⟩
  refine OS.pure rfl (fun _ => rfl) rfl ?_
  refine OS.pure rfl (fun _ => rfl) rfl ?_
  refine OS.pure rfl (fun _ => rfl) rfl ?_
  refine OS.pure rfl (fun _ => rfl) rfl ?_
  refine OS.call noGo rfl (fun _ => rfl) ((Taken_ct (T := M2) (by omega) (-1)).mono ?_)
  rintro v L' ⟨rfl, rfl⟩
  rw [out_f (by omega)]
  refine ⟨_, rfl, ?_⟩
  refine OS.pure rfl (fun _ => rfl) rfl ?_
  refine OS.pure rfl (fun _ => rfl) rfl ?_
  refine OS.pure rfl (fun _ => rfl) rfl ?_
  refine OS.call noGo rfl (fun _ => rfl) ((Taken_ct (T := M2) (by omega) 32768).mono ?_)
  rintro v L' ⟨rfl, rfl⟩
  rw [out_f (by omega)]
  refine ⟨_, rfl, ?_⟩
  refine OS.pure rfl (fun _ => rfl) rfl ?_
  refine OS.pure rfl (fun _ => rfl) rfl ?_
  refine OS.pure rfl (fun _ => rfl) rfl ?_
  refine OS.call noGo rfl (fun _ => rfl) ((Taken_ct (T := M2) (by omega) 32767).mono ?_)
  rintro v L' ⟨rfl, rfl⟩
  rw [decide_eq_true (show 0 ≤ (32767 : Int) ∧ (32767 : Int) < M2.length by omega), show ((32767 : Int).toNat) = 32767 from rfl, hc2]
  refine ⟨_, rfl, ?_⟩
  refine OS.pure rfl (fun _ => rfl) rfl ?_
  refine OS.pure rfl (fun _ => rfl) rfl ?_
  refine OS.pure rfl (fun _ => rfl) rfl ?_
  refine OS.pure rfl (fun _ => rfl) rfl ?_
  refine OS.sub (Sub.pulls [5, 5] rfl) ?_
  refine OS.call noGo rfl (fun _ => rfl) ((Bytes_ct (T := []) (by decide)).mono ?_)
  rintro v L' ⟨r2, rfl, rfl⟩
  rw [mb_nil]
  refine ⟨_, rfl, ?_⟩
  refine OS.read rfl (e_textSV (n := 1) (bs := [0]) (SV.row (e := 5) (List.mem_cons_self ..) rfl) rfl rfl rfl rfl rfl) rfl ?_
  refine OS.pure rfl (fun _ => rfl) rfl ?_
  refine OS.pure rfl (fun _ => rfl) rfl ?_
  refine OS.nil ?_
  refine LS.cond rfl (fun hc => by cases hc) (fun hc => ?_)
  refine LS.skip ?_
  repeat refine LS.seq ?_
  refine LS.region rfl ?_
  refine OS.pure rfl (fun _ => rfl) rfl ?_
  refine OS.nil ?_
  repeat refine LS.seq ?_
  refine LS.region rfl ?_
  refine OS.pure rfl (fun _ => rfl) rfl ?_
  refine OS.call noGo rfl (fun _ => rfl) ((nTake_ct).mono ?_)
  rintro v L' ⟨rfl, rfl⟩
  refine ⟨_, rfl, ?_⟩
  refine OS.pure rfl (fun _ => rfl) rfl ?_
  refine OS.pure rfl (fun _ => rfl) rfl ?_
  refine OS.pure rfl (fun _ => rfl) rfl ?_
  refine OS.pure rfl (fun _ => rfl) rfl ?_
  refine OS.pure rfl (fun _ => rfl) rfl ?_
  refine OS.nil ?_
  repeat refine LS.seq ?_
  refine LS.region rfl ?_
  refine OS.pure rfl (fun _ => rfl) rfl ?_
  refine OS.call noGo rfl (fun _ => rfl) ((nLen_ct).mono ?_)
  rintro v L' ⟨rfl, rfl⟩
  refine ⟨_, rfl, ?_⟩
  refine OS.pure rfl (fun _ => rfl) rfl ?_
  refine OS.call noGo rfl (fun _ => rfl) ((nFree_ct).mono ?_)
  rintro v L' ⟨rfl, rfl⟩
  refine ⟨_, rfl, ?_⟩
  refine OS.pure rfl (fun _ => rfl) rfl ?_
  refine OS.pure rfl (fun _ => rfl) rfl ?_
  refine OS.call noGo rfl (fun _ => rfl) ((nList_ct).mono ?_)
  rintro v L' ⟨rfl, rfl⟩
  refine ⟨_, rfl, ?_⟩
  refine OS.pure rfl (fun _ => rfl) rfl ?_
  refine OS.pure rfl (fun _ => rfl) rfl ?_
  refine OS.pure rfl (fun _ => rfl) rfl ?_
  refine OS.call noGo rfl (fun _ => rfl) ((nBytes_ct).mono ?_)
  rintro v L' ⟨rfl, rfl⟩
  refine ⟨_, rfl, ?_⟩
  refine OS.pure rfl (fun _ => rfl) rfl ?_
  refine OS.pure rfl (fun _ => rfl) rfl ?_
  refine OS.pure rfl (fun _ => rfl) rfl ?_
  refine OS.pure rfl (fun _ => rfl) rfl ?_
  refine OS.pure rfl (fun _ => rfl) rfl ?_
  refine OS.call noGo rfl (fun _ => rfl) ((nTaken_ct).mono ?_)
  rintro v L' ⟨rfl, rfl⟩
  refine ⟨_, rfl, ?_⟩
  refine OS.pure rfl (fun _ => rfl) rfl ?_
  refine OS.pure rfl (fun _ => rfl) rfl ?_
  refine OS.pure rfl (fun _ => rfl) rfl ?_
  refine OS.pure rfl (fun _ => rfl) rfl ?_
  refine OS.pure rfl (fun _ => rfl) rfl ?_
  refine OS.pure rfl (fun _ => rfl) rfl ?_
  refine OS.pure rfl (fun _ => rfl) rfl ?_
  refine OS.pure rfl (fun _ => rfl) rfl ?_
  refine OS.call noGo rfl (fun _ => rfl) ((nClaim_ct).mono ?_)
  rintro v L' ⟨rfl, rfl⟩
  refine ⟨_, rfl, ?_⟩
  refine OS.pure rfl (fun _ => rfl) rfl ?_
  refine OS.pure rfl (fun _ => rfl) rfl ?_
  refine OS.pure rfl (fun _ => rfl) rfl ?_
  refine OS.pure rfl (fun _ => rfl) rfl ?_
  refine OS.call noGo rfl (fun _ => rfl) ((nDrop_ct).mono ?_)
  rintro v L' ⟨rfl, rfl⟩
  refine ⟨_, rfl, ?_⟩
  refine OS.pure rfl (fun _ => rfl) rfl ?_
  refine OS.pure rfl (fun _ => rfl) rfl ?_
  refine OS.pure rfl (fun _ => rfl) rfl ?_
  refine OS.pure rfl (fun _ => rfl) rfl ?_
  refine OS.call noGo rfl (fun _ => rfl) ((nCopy_ct).mono ?_)
  rintro v L' ⟨rfl, rfl⟩
  refine ⟨_, rfl, ?_⟩
  refine OS.pure rfl (fun _ => rfl) rfl ?_
  refine OS.pure rfl (fun _ => rfl) rfl ?_
  refine OS.pure rfl (fun _ => rfl) rfl ?_
  refine OS.nil ?_
  refine LS.ret ⟨_, fun _ _ => rfl, ?_⟩
  rfl
end Go.Proofs.Ytlifdkihjnnonaa
