/- Layer 11: not, brackets, a term. -/
import Derived.Test.YtdacddkelagdnaaEd
namespace Go.Proofs.Ytdacddkelagdnaa
open Go.Am
set_option linter.unusedVariables false
set_option maxRecDepth 20000
set_option maxHeartbeats 4000000
attribute [local irreducible] OS LSr ODS CS

theorem negation_ct {rp d : Nat} {s : Value} {G F : RL} {res : Rs} (ht : CS Try.prog 44 [ptr rp] ((rp, PRow s d) :: F) (PostM .t G rp d F res)) :
    CS Try.prog 51 [ptr rp] ((rp, PRow s d) :: F) (PostM .t G rp d F (res.bind fun t r => .ok (.neg t) r)) := by
  refine CS.mk (fn := Try.f51) rfl rfl rfl rfl ?_
  refine yG ?_
  refine OS.call noGo rfl (fun _ => rfl) ((ht).mono ?_)
  cases res with
  | err e =>
    rintro v L' ⟨u, s', Y, rfl, he, rfl⟩
    rcases he with rfl | rfl
    · refine yG ?_
      exact ⟨_, s', Y, rfl, .inl rfl, rfl⟩
    · refine yG ?_
      exact ⟨_, s', Y, rfl, .inr rfl, rfl⟩
  | ok x r =>
    rintro v L' ⟨u, s', Y, rfl, rfl, hw, d', y, rfl, hv⟩
    refine yG ?_
    exact ⟨_, s', Y, rfl, rfl, hw, _, _, rfl, d', y, rfl, hv⟩
/-- What stands behind an opening bracket. -/
def closed (res : Rs) : Rs := res.bind fun c r' => match r' with
  | [] => .err 4
  | y :: r'' => if y = wClose then .ok (.par c) r'' else .err 4
theorem bracketed_ct {rp d : Nat} {s : Value} {G F : RL} {res : Rs} (hG : ∀ p, p ∈ G → p ∈ F) (ht : CS Try.prog 30 [ptr rp] ((rp, PRow s d) :: F) (PostM .c G rp d F res)) :
    CS Try.prog 52 [ptr rp] ((rp, PRow s d) :: F) (PostM .t G rp d F (closed res)) := by
  refine CS.mk (fn := Try.f52) rfl rfl rfl rfl ?_
  refine yG ?_
  refine OS.call noGo rfl (fun _ => rfl) ((ht).mono ?_)
  cases res with
  | err e =>
    rintro v L' ⟨u, s', Y, rfl, he, rfl⟩
    rcases he with rfl | rfl
    · refine yG ?_
      exact ⟨_, s', Y, rfl, .inl rfl, rfl⟩
    · refine yG ?_
      exact ⟨_, s', Y, rfl, .inr rfl, rfl⟩
  | ok x r =>
    rintro v L' ⟨u, s', Y, rfl, rfl, hw, A, n, cp, ts, rfl, hv, hr⟩
    have hG' : ∀ p, p ∈ G → p ∈ Y ++ F := fun p hp => List.mem_append_right _ (hG p hp)
    refine yG ?_
    by_cases h : r.head? = some wClose
    · cases r with
      | nil => cases h
      | cons y r =>
        obtain rfl : y = wClose := Option.some.inj h
        refine OS.call noGo rfl (fun _ => rfl) ((take_yes (x := wClose) hw hG').mono ?_)
        rintro v L' ⟨s2, rfl, rfl, hw2⟩
        refine yG ?_
        unfold closed
        simp only [Rs.bind, if_true]
        exact ⟨_, s2, Y, rfl, rfl, hw2, _, _, rfl, A, n, cp, ts, rfl, hv, hr⟩
    · have hc : closed (.ok x r) = .err 4 := by
        unfold closed
        cases r with
        | nil => rfl
        | cons y r =>
          show (if y = wClose then _ else _) = _
          rw [if_neg (by simpa using h)]
      rw [hc]
      refine OS.call noGo rfl (fun _ => rfl) ((take_no (x := wClose) hw hG' h).mono ?_)
      rintro v L' ⟨rfl, rfl⟩
      refine yG ?_
      exact ⟨_, s', Y, rfl, .inl rfl, rfl⟩
theorem term_ct {N : Nat} (iht : ∀ M, M < N → Ct 44 .t M) (ihc : ∀ M, M < N → Ct 30 .c M) : Ct 44 .t N := by
  intro rp d k s w G F hN hN2 hs hG hd hk
  cases k with
  | zero => simp [fuel, Md.n] at hk
  | succ k =>
  obtain ⟨c, hc⟩ : ∃ c, cmpAt w = c := ⟨_, rfl⟩
  match c, hc with
  | some (a, o, b, r), hc =>
    have e : pr (k + 1) .t d w = .ok (.cmp a o b) r := by unfold pr; rw [hc]
    rw [e]
    refine CS.mk (fn := Try.f44) rfl rfl rfl rfl ?_
    refine yG ?_
    refine OS.call noGo rfl (fun _ => rfl) ((comparison_yes hs hG hc).mono ?_)
    rintro v L' ⟨s', rfl, rfl, hw⟩
    refine yG ?_
    refine OS.fresh rfl (e_new (fun _ => rfl) rfl) (fun _ => rfl) (fun r4 => ?_)
    refine OS.sub (Sub.pulls [1] rfl) ?_
    refine yG ?_
    exact ⟨_, s', [(r4, _)], rfl, rfl, hw, _, _, rfl, rfl⟩
  | none, hc =>
    by_cases h1 : w.head? = some wNot
    · match w, h1 with
      | y :: r, h1 =>
        obtain rfl : y = wNot := Option.some.inj h1
        have e : pr (k + 1) .t d (wNot :: r) = if d = 64 then .err 65 else (pr k .t (d + 1) r).bind fun t r => .ok (.neg t) r := by
          conv => lhs; unfold pr
          rw [hc]; simp only [if_true]
        rw [e]
        have hl : r.length < N := by simp at hN; omega
        have hin : ∀ s', Wd G s' r → d < 64 → CS Try.prog 51 [ptr rp] ((rp, PRow s' (d + 1)) :: F) (PostM .t G rp (d + 1) F ((pr k .t (d + 1) r).bind fun t r => .ok (.neg t) r)) := fun s' hs' hd' =>
          negation_ct (iht r.length hl rp (d + 1) k s' r G F (Nat.le_refl _) (by omega) hs' hG (by omega) (by simp [fuel, Md.n] at hk ⊢; omega))
        refine CS.mk (fn := Try.f44) rfl rfl rfl rfl ?_
        refine yG ?_
        refine OS.call noGo rfl (fun _ => rfl) ((comparison_no hs hG hc).mono ?_)
        rintro v L' ⟨rfl, rfl⟩
        refine yG ?_
        refine OS.fresh rfl (e_new (fun _ => rfl) rfl) (fun _ => rfl) (fun r4 => ?_)
        refine yG ?_
        refine OS.sub (Sub.drop 0 rfl) ?_
        refine OS.call noGo rfl (fun _ => rfl) ((take_yes (x := wNot) hs hG).mono ?_)
        rintro v L' ⟨s', rfl, rfl, hw⟩
        refine yG ?_
        refine OS.call noGo rfl (fun _ => rfl) ((within_ct hd (hin s' hw)).mono ?_)
        generalize (if d = 64 then Rs.err 65 else _) = res
        cases res with
        | err e =>
          rintro v L' ⟨u, s', Y, rfl, he, rfl⟩
          refine yG ?_
          exact ⟨_, s', Y, rfl, he, rfl⟩
        | ok x r =>
          rintro v L' ⟨u, s', Y, rfl, rfl, hw, hv⟩
          refine yG ?_
          exact ⟨_, s', Y, rfl, rfl, hw, hv⟩
    by_cases h2 : w.head? = some wOpen
    · match w, h2 with
      | y :: r, h2 =>
        obtain rfl : y = wOpen := Option.some.inj h2
        have e : pr (k + 1) .t d (wOpen :: r) = if d = 64 then .err 65 else closed (pr k .c (d + 1) r) := by
          conv => lhs; unfold pr
          unfold closed; rw [hc]; simp only [show ¬ wOpen = wNot by decide, if_false, if_true]
          rfl
        rw [e]
        have hl : r.length < N := by simp at hN; omega
        have hin : ∀ s', Wd G s' r → d < 64 → CS Try.prog 52 [ptr rp] ((rp, PRow s' (d + 1)) :: F) (PostM .t G rp (d + 1) F (closed (pr k .c (d + 1) r))) := fun s' hs' hd' =>
          bracketed_ct hG (ihc r.length hl rp (d + 1) k s' r G F (Nat.le_refl _) (by omega) hs' hG (by omega) (by simp [fuel, Md.n] at hk ⊢; omega))
        refine CS.mk (fn := Try.f44) rfl rfl rfl rfl ?_
        refine yG ?_
        refine OS.call noGo rfl (fun _ => rfl) ((comparison_no hs hG hc).mono ?_)
        rintro v L' ⟨rfl, rfl⟩
        refine yG ?_
        refine OS.fresh rfl (e_new (fun _ => rfl) rfl) (fun _ => rfl) (fun r4 => ?_)
        refine yG ?_
        refine OS.sub (Sub.drop 0 rfl) ?_
        refine OS.call noGo rfl (fun _ => rfl) ((take_no (x := wNot) hs hG h1).mono ?_)
        rintro v L' ⟨rfl, rfl⟩
        refine yG ?_
        refine OS.call noGo rfl (fun _ => rfl) ((take_yes (x := wOpen) hs hG).mono ?_)
        rintro v L' ⟨s', rfl, rfl, hw⟩
        refine yG ?_
        refine OS.call noGo rfl (fun _ => rfl) ((within_ct hd (hin s' hw)).mono ?_)
        generalize (if d = 64 then Rs.err 65 else _) = res
        cases res with
        | err e =>
          rintro v L' ⟨u, s', Y, rfl, he, rfl⟩
          refine yG ?_
          exact ⟨_, s', Y, rfl, he, rfl⟩
        | ok x r =>
          rintro v L' ⟨u, s', Y, rfl, rfl, hw, hv⟩
          refine yG ?_
          exact ⟨_, s', Y, rfl, rfl, hw, hv⟩
    have e : pr (k + 1) .t d w = .err 4 := by
      unfold pr; rw [hc]
      cases w with
      | nil => rfl
      | cons y r =>
        simp only [List.head?_cons, Option.some.injEq] at h1 h2
        simp only [h1, h2, if_false]
    rw [e]
    refine CS.mk (fn := Try.f44) rfl rfl rfl rfl ?_
    refine yG ?_
    refine OS.call noGo rfl (fun _ => rfl) ((comparison_no hs hG hc).mono ?_)
    rintro v L' ⟨rfl, rfl⟩
    refine yG ?_
    refine OS.fresh rfl (e_new (fun _ => rfl) rfl) (fun _ => rfl) (fun r4 => ?_)
    refine yG ?_
    refine OS.sub (Sub.drop 0 rfl) ?_
    refine OS.call noGo rfl (fun _ => rfl) ((take_no (x := wNot) hs hG h1).mono ?_)
    rintro v L' ⟨rfl, rfl⟩
    refine yG ?_
    refine OS.call noGo rfl (fun _ => rfl) ((take_no (x := wOpen) hs hG h2).mono ?_)
    rintro v L' ⟨rfl, rfl⟩
    refine yG ?_
    exact ⟨_, s, [], rfl, .inl rfl, rfl⟩
end Go.Proofs.Ytdacddkelagdnaa
