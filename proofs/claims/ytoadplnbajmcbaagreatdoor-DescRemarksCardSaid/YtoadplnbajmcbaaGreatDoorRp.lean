/- Layer 12: Parse. -/
import Derived.Test.YtoadplnbajmcbaaGreatDoorRo
namespace Go.Am
theorem res_c3 (i : Nat) {P : Program} {a : Slots} {L : RL} {x y z r off : Nat} {t : TypeId} {row : ARow} {cs : List Value} {v u w : Value} (hx : a[x]? = some (.pointer (some ⟨r, off, none⟩))) (hL : L[i]? = some (r, row)) (hc : rdRow row = some cs) (hv : partB P t cs off = some v) (hy : a[y]? = some u) (hz : a[z]? = some w) : ∀ h, Has h L → resultsB P a h [.cell x t, .tmp y, .tmp z] = some [v, u, w] := by
  intro h H
  have hl : loadB P t (.pointer (some ⟨r, off, none⟩)) h = some v := by simp only [loadB, H.read hL hc, hv]
  simp only [resultsB, hx, hl, hy, hz]
theorem SV.form {sz n : Nat} {F : RL} {v : Value} {cs : List Value} (h : SV sz F v n cs) : ∃ A c, v = .slice A n c := by
  rcases h with ⟨rfl, rfl, _⟩ | ⟨r, off, cap, row, cs₀, rfl, _⟩
  · exact ⟨_, _, rfl⟩
  · exact ⟨_, _, rfl⟩
end Go.Am
namespace Go.Proofs.YtoadplnbajmcbaaGreatDoor
open Go.Am Go.Pd
set_option linter.unusedVariables false
set_option maxRecDepth 20000
set_option maxHeartbeats 4000000
attribute [local irreducible] OS LSr ODS CS YS
section
variable {F L : RL} {d : Dc} {v : Value}
theorem DocV.mono {M : RL} (h : DocV L v d) (hm : ∀ p, p ∈ L → p ∈ M) : DocV M v d := by
  obtain ⟨hv, sv, hcs, scs, h1, h2, h3, h4, h5⟩ := h
  exact ⟨hv, sv, hcs, scs, h1, h2.up hm, h3.mono hm, h4.up hm, h5.mono hm⟩
theorem Parse_ct {g : Gn} (hG : GL g F) {s : W} (hs : s.length ≤ 1000000000000) : CS Tryz.prog 15 [str s] F fun v L' => match readL chk spD 1 ⟨[], []⟩ (segs s) with
    | .error (no, e) => v = .tuple #[.agg #[.slice none 0 0, .slice none 0 0], .int .i64 (no : Nat), .int .i64 (e : Nat)] ∧ Ends F L'
    | .ok d => ∃ u Z, v = .tuple #[u, .int .i64 0, .int .i64 0] ∧ L' = Z ++ F ∧ DocV (Z ++ F) u d := by
  refine CS.mk (fn := Tryz.f15) rfl rfl rfl rfl ?_
  refine yG ?_
  refine OS.fresh rfl (e_new (fun _ => rfl) rfl) (fun _ => rfl) (fun r2 => ?_)
  show OS _ _ _ _ ((r2, ARow.cells tD [.slice none 0 0, .slice none 0 0]) :: _) _
  refine yG ?_
  refine OS.call noGo rfl (fun _ => rfl) ((dread2_ct (hG.mono fun p hp => List.mem_cons_of_mem _ hp) hG (fun p hp => List.mem_cons_of_mem _ hp) hs).mono ?_)
  cases he : readL chk spD 1 ⟨[], []⟩ (segs s) with
  | error p =>
    obtain ⟨no, e⟩ := p
    rintro v L' ⟨rfl, Z, rfl⟩
    refine ⟨_, rfl, ?_⟩
    refine OS.sub (Sub.sums (A := (r2, .cells tD [.slice none 0 0, .slice none 0 0]) :: (Z ++ F)) fun f => by simp <;> omega) ?_
    refine yG ?_
    refine OS.fresh rfl (e_new (fun _ => rfl) rfl) (fun _ => rfl) (fun r5 => ?_)
    show OS _ _ _ _ ((r5, ARow.cells tD [.slice none 0 0, .slice none 0 0]) :: _) _
    refine yG ?_
    refine OS.call noGo rfl (fun _ => rfl) ((dTold_f (hG.mono fun p hp => by simp [hp])).mono ?_)
    rintro v L' ⟨rfl, rfl⟩
    refine ⟨_, rfl, ?_⟩
    refine yG ?_
    refine LS.ret ⟨_, res_c3 1 rfl rfl rfl rfl rfl rfl, ?_⟩
    exact ⟨rfl, by repeat (first | exact Ends.nil | apply Ends.cons | apply Ends.app)⟩
  | ok d =>
    rintro v L' ⟨u, Z, rfl, rfl, hd⟩
    obtain ⟨hv, sv, hcs, scs, rfl, h2, h3, h4, h5⟩ := hd
    have hd : DocV (Z ++ F) (.agg #[hv, sv]) d := ⟨hv, sv, hcs, scs, rfl, h2, h3, h4, h5⟩
    obtain ⟨A1, c1, rfl⟩ := h2.form
    obtain ⟨A2, c2, rfl⟩ := h4.form
    refine ⟨_, rfl, ?_⟩
    refine OS.sub (Sub.sums (A := (r2, .cells tD [.slice none 0 0, .slice none 0 0]) :: (Z ++ F)) fun f => by simp <;> omega) ?_
    refine yG ?_
    refine OS.fresh rfl (e_new (fun _ => rfl) rfl) (fun _ => rfl) (fun r5 => ?_)
    show OS _ _ _ _ ((r5, ARow.cells tD [.slice none 0 0, .slice none 0 0]) :: _) _
    refine yG ?_
    refine OS.call noGo rfl (fun _ => rfl) ((dTold_nil).mono ?_)
    rintro v L' ⟨rfl, rfl⟩
    refine ⟨_, rfl, ?_⟩
    refine yG ?_
    refine LS.ret ⟨_, res_c3 1 rfl rfl rfl rfl rfl rfl, ?_⟩
    exact ⟨_, (r5, _) :: (r2, _) :: Z, rfl, rfl, hd.mono fun p hp => List.mem_cons_of_mem _ (List.mem_cons_of_mem _ hp)⟩
end
end Go.Proofs.YtoadplnbajmcbaaGreatDoor
