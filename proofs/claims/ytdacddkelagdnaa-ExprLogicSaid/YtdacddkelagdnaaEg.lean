/- Layer 11: part and condition; the whole parser; Parse. -/
import Derived.Test.YtdacddkelagdnaaEf
namespace Go.Proofs.Ytdacddkelagdnaa
open Go.Am
set_option linter.unusedVariables false
set_option maxRecDepth 20000
set_option maxHeartbeats 4000000
attribute [local irreducible] OS LSr ODS CS

theorem part_ct {N : Nat} (it : Ct 44 .t N) : Ct 35 .p N := by
  intro rp d k s w G F hN hN2 hs hG hd hk
  have hj := joined_p (rp := rp) it hN hN2 hs hG hd hk
  refine CS.mk (fn := Try.f35) rfl rfl rfl rfl ?_
  refine yG ?_
  refine OS.call noGo rfl (fun _ => rfl) ((hj).mono ?_)
  generalize pr k .p d w = res
  cases res with
  | err e =>
    rintro v L' ⟨u, s', Y, rfl, he, rfl⟩
    refine yG ?_
    exact ⟨u, s', Y, rfl, he, rfl⟩
  | ok x r =>
    rintro v L' ⟨u, s', Y, rfl, rfl, hw, hv⟩
    refine yG ?_
    exact ⟨u, s', Y, rfl, rfl, hw, hv⟩
theorem condition_ct {N : Nat} (it : Ct 35 .p N) : Ct 30 .c N := by
  intro rp d k s w G F hN hN2 hs hG hd hk
  have hj := joined_c (rp := rp) it hN hN2 hs hG hd hk
  refine CS.mk (fn := Try.f30) rfl rfl rfl rfl ?_
  refine yG ?_
  refine OS.call noGo rfl (fun _ => rfl) ((hj).mono ?_)
  generalize pr k .c d w = res
  cases res with
  | err e =>
    rintro v L' ⟨u, s', Y, rfl, he, rfl⟩
    refine yG ?_
    exact ⟨u, s', Y, rfl, he, rfl⟩
  | ok x r =>
    rintro v L' ⟨u, s', Y, rfl, rfl, hw, hv⟩
    refine yG ?_
    exact ⟨u, s', Y, rfl, rfl, hw, hv⟩
theorem terms_ct (N : Nat) : ∀ M, M ≤ N → Ct 44 .t M := by
  induction N with
  | zero =>
    intro M hM
    exact term_ct (fun M' h => by omega) (fun M' h => by omega)
  | succ N ih =>
    intro M hM
    exact term_ct (fun M' h => ih M' (by omega)) (fun M' h => condition_ct (part_ct (ih M' (by omega))))
theorem cond_ct (N : Nat) : Ct 30 .c N := condition_ct (part_ct (terms_ct N N (Nat.le_refl _)))
/-- What the whole parser, and Parse, come to. -/
def whl (res : Rs) : Rs := res.bind fun c r => match r with
  | [] => .ok c []
  | _ :: _ => .err 4
theorem whole_ct {rp : Nat} {s : Value} {w : List W} {F : RL} (hs : Wd F s w) (hw : w.length ≤ 1000000) : CS Try.prog 27 [ptr rp] ((rp, PRow s 0) :: F) fun v L' => match parse w with
    | .err e => ∃ u s' Y, v = .tuple #[u, .int .i64 (e : Nat)] ∧ (e = 4 ∨ e = 65) ∧ L' = (rp, PRow s' 0) :: (Y ++ F)
    | .ok x _ => ∃ u s' Y, v = .tuple #[u, .int .i64 0] ∧ L' = (rp, PRow s' 0) :: (Y ++ F) ∧ Vm Y .c u x := by
  have hc := cond_ct w.length rp 0 (fuel .c w) s w F F (Nat.le_refl _) hw hs (fun _ h => h) (by omega) (Nat.le_refl _)
  unfold parse
  generalize pr (fuel .c w) .c 0 w = res at hc
  refine CS.mk (fn := Try.f27) rfl rfl rfl rfl ?_
  refine yG ?_
  refine OS.call noGo rfl (fun _ => rfl) ((hc).mono ?_)
  cases res with
  | err e =>
    rintro v L' ⟨u, s', Y, rfl, he, rfl⟩
    rcases he with rfl | rfl
    · refine yG ?_
      exact ⟨_, s', Y, rfl, .inl rfl, rfl⟩
    · refine yG ?_
      exact ⟨_, s', Y, rfl, .inr rfl, rfl⟩
  | ok x r =>
    rintro v L' ⟨u, s', Y, rfl, rfl, hw, hv⟩
    have hsv : SV 1 ((rp, PRow s' 0) :: (Y ++ F)) s' r.length (strs r) := (hw.sv.mono fun p hp => List.mem_append_right _ hp).cons
    cases r with
    | nil =>
      have hb : (!ileB ((([] : List W).length : Nat) : Int) 0) = false := rfl
      refine yG ?_
      exact ⟨_, s', Y, rfl, rfl, hv⟩
    | cons y r =>
      have hb : (!ileB (((y :: r).length : Nat) : Int) 0) = true := by rw [ileB_eq]; simp
      refine yG ?_
      exact ⟨_, s', Y, rfl, .inl rfl, rfl⟩
/-- A copy of a list of texts. -/
theorem CloneS_ct {L : RL} {v : Value} {n : Nat} {cs : List Value} (hv : SV 1 L v n cs) (hone : allOne cs = true) (hn : n ≤ 1000000) : CS Try.prog 24 [v] L fun u L' => GV 9 1 L u n cs L' := by
  have hnil : v = .slice none 0 0 ∨ ∃ r off cap, v = .slice (some ⟨r, off, none⟩) n cap := by
    rcases hv with ⟨rfl, _⟩ | ⟨r, off, cap, row, cs₀, rfl, _⟩
    · exact .inl rfl
    · exact .inr ⟨r, off, cap, rfl⟩
  have hcs := hv.len
  refine CS.mk (fn := Try.f24) rfl rfl rfl rfl ?_
  rcases hnil with rfl | ⟨r, off, cap, rfl⟩
  · have hnc : n = 0 ∧ cs = [] := by
      rcases hv with ⟨_, rfl, rfl⟩ | ⟨r, off, cap, row, cs₀, hh, _⟩
      · exact ⟨rfl, rfl⟩
      · cases hh
    obtain ⟨rfl, rfl⟩ := hnc
    refine yG ?_
    exact .nil
  · refine yG ?_
    refine OS.fresh rfl (e_new (fun _ => rfl) rfl) (fun _ => rfl) (fun r0 => ?_)
    refine OS.opened 5 0 (sz := 1) rfl rfl rfl (by simp) (by decide) rfl ?_
    refine yG ?_
    refine OS.fresh rfl (e_appendSV 0 (sz := 1) (bts := 16) (old := []) hv.cons hone rfl rfl rfl (by omega) (by omega) rfl cut_zero rfl) (fun _ => rfl) (fun rI => ?_)
    rw [Nat.zero_add, List.nil_append]
    refine yG ?_
    exact GV.of hcs
/-- A condition as it was parsed. -/
def XV (L : RL) (v : Value) (w : List W) (x : X) : Prop := ∃ rx ws u A n cp ts, v = ptr rx ∧ (rx, ARow.cells 50 [ws, u]) ∈ L ∧ SV 1 L ws w.length (strs w) ∧ u = .slice A n cp ∧ SV 1 L u n ts ∧ Rep L .c x ts
theorem XV.mono {L M : RL} {v : Value} {w : List W} {x : X} (h : XV L v w x) (hm : ∀ p, p ∈ L → p ∈ M) : XV M v w x := by
  obtain ⟨rx, ws, u, A, n, cp, ts, h1, h2, h3, h4, h5, h6⟩ := h
  exact ⟨rx, ws, u, A, n, cp, ts, h1, hm _ h2, h3.mono hm, h4, h5.mono hm, h6.mono hm⟩
theorem Parse_ct {s : Value} {w : List W} {F : RL} (hs : Wd F s w) (hw : w.length ≤ 1000000) : CS Try.prog 16 [s] F fun v L' => match parse w with
    | .err e => v = .tuple #[.pointer none, .int .i64 (e : Nat)] ∧ (e = 4 ∨ e = 65) ∧ L' = F
    | .ok x _ => ∃ u Y, v = .tuple #[u, .int .i64 0] ∧ L' = Y ++ F ∧ XV Y u w x := by
  obtain ⟨A, c, rfl⟩ := hs.form
  have hp := fun rp => whole_ct (rp := rp) hs hw
  suffices hh : CS Try.prog 16 [.slice A w.length c] F fun v L' => match parse w with
    | .err e => ∃ Y, v = .tuple #[.pointer none, .int .i64 (e : Nat)] ∧ (e = 4 ∨ e = 65) ∧ L' = Y ++ F
    | .ok x _ => ∃ u Y, v = .tuple #[u, .int .i64 0] ∧ L' = Y ++ F ∧ XV Y u w x by
    refine hh.less fun v L' h => ?_
    generalize parse w = res at h ⊢
    cases res with
    | err e => obtain ⟨Y, h1, h2, rfl⟩ := h; exact ⟨F, ⟨Y, List.perm_append_comm⟩, h1, h2, rfl⟩
    | ok x r => exact ⟨L', ⟨[], by simp⟩, h⟩
  generalize parse w = res at hp ⊢
  refine CS.mk (fn := Try.f16) rfl rfl rfl rfl ?_
  refine yG ?_
  refine OS.fresh rfl (e_new (fun _ => rfl) rfl) (fun _ => rfl) (fun rp => ?_)
  refine yG ?_
  refine OS.call noGo rfl (fun _ => rfl) ((hp rp).mono ?_)
  cases res with
  | err e =>
    rintro v L' ⟨u, s', Y, rfl, he, rfl⟩
    rcases he with rfl | rfl
    · refine yG ?_
      exact ⟨(rp, PRow s' 0) :: Y, rfl, .inl rfl, by simp⟩
    · refine yG ?_
      exact ⟨(rp, PRow s' 0) :: Y, rfl, .inr rfl, by simp⟩
  | ok x r =>
    rintro v L' ⟨u, s', Y, rfl, rfl, A2, n2, c2, ts, rfl, h1, h2⟩
    have hsv : SV 1 ((rp, PRow s' 0) :: (Y ++ F)) (.slice A w.length c) w.length (strs w) := (hs.sv.mono fun p hp => List.mem_append_right _ hp).cons
    refine yG ?_
    refine OS.call noGo rfl (fun _ => rfl) ((CloneS_ct hsv (strs_one w) hw).mono ?_)
    rintro v L' hg
    rcases hg with ⟨rfl, hn, hcs, rfl⟩ | ⟨r3, rfl, hcs, rfl⟩
    · refine yG ?_
      refine OS.fresh rfl (e_new (fun _ => rfl) rfl) (fun _ => rfl) (fun rx => ?_)
      refine yG ?_
      exact ⟨_, (rx, ARow.cells 50 [.slice none 0 0, .slice A2 n2 c2]) :: (rp, PRow s' 0) :: Y, rfl, rfl, rx, _, _, A2, n2, c2, ts, rfl, List.mem_cons_self .., by rw [hn, hcs]; exact .inl ⟨rfl, rfl, rfl⟩, rfl, (h1.mono fun p hp => List.mem_cons_of_mem _ (List.mem_cons_of_mem _ hp)), h2.mono fun p hp => List.mem_cons_of_mem _ (List.mem_cons_of_mem _ hp)⟩
    · refine yG ?_
      refine OS.fresh rfl (e_new (fun _ => rfl) rfl) (fun _ => rfl) (fun rx => ?_)
      refine yG ?_
      exact ⟨_, (rx, ARow.cells 50 [.slice (some ⟨r3, 0, none⟩) w.length openCap, .slice A2 n2 c2]) :: (r3, ARow.cells 9 (strs w)) :: (rp, PRow s' 0) :: Y, rfl, rfl, rx, _, _, A2, n2, c2, ts, rfl, List.mem_cons_self .., SV.row (e := 9) (by simp) hcs, rfl, (h1.mono fun p hp => List.mem_cons_of_mem _ (List.mem_cons_of_mem _ (List.mem_cons_of_mem _ hp))), h2.mono fun p hp => List.mem_cons_of_mem _ (List.mem_cons_of_mem _ (List.mem_cons_of_mem _ hp))⟩
end Go.Proofs.Ytdacddkelagdnaa
