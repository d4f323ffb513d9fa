/- Layer 11: ExprBrackets's law. -/
import Derived.Test.YtdacddkelagdnaaEo
namespace Go.Proofs.Ytdacddkelagdnaa
open Go.Am
set_option linter.unusedVariables false
set_option maxRecDepth 20000
set_option maxHeartbeats 4000000
attribute [local irreducible] OS LSr ODS CS

theorem brk_len (w : List W) : (brk w).length = w.length + 2 := by simp [brk]
theorem Fit.brk {w : List W} (h : w.length ≤ 99000) (hm : ∀ t ∈ w, t.length ≤ 1000000) : Fit (brk w) := by
  refine ⟨by rw [brk_len]; omega, fun t ht => ?_⟩
  unfold Go.Proofs.Ytdacddkelagdnaa.brk at ht
  rcases List.mem_cons.1 ht with rfl | ht
  · decide
  · rcases List.mem_append.1 ht with ht | ht
    · exact hm t ht
    · simp at ht; subst ht; decide
theorem plain_pl {w : List W} (h : plainB w = true) : ∃ x, parse w = .ok x [] ∧ Pl w := by
  unfold plainB at h
  obtain ⟨res, hr⟩ : ∃ res, parse w = res := ⟨_, rfl⟩
  rw [hr] at h ⊢
  cases res with
  | err e => cases h
  | ok x r =>
    have hr0 : r = [] := by
      unfold parse at hr
      cases hq : pr (fuel .c w) .c 0 w with
      | err e => rw [hq] at hr; cases hr
      | ok c r' =>
        rw [hq] at hr
        cases r' with
        | nil => cases hr; rfl
        | cons _ _ => cases hr
    subst hr0
    refine ⟨x, rfl, fun o ho => ?_⟩
    cases w with
    | nil => cases ho
    | cons y w =>
      obtain rfl : y = o := Option.some.inj ho
      exact of_decide_eq_true h
theorem bracketsLaw_ct {L : RL} {v : Value} {n : Nat} {ws : List W} (hv0 : RO 1 L v n (strs ws)) (hn : n ≤ 9000000000000000) (hw : ∀ w ∈ ws, w.length ≤ 140737488355328) :
    CS Try.prog 6 [v] L fun u _ => u = .bool true := by
  obtain rfl : ws.length = n := by have := hv0.sv.len; rw [strs_len] at this; omega
  have hv := hv0.sv
  have hW : Wd L v ws := hv0.wl
  clear hv0
  refine CS.mk (fn := Try.f6) rfl rfl rfl rfl ?_
  refine yG ?_
  refine OS.call noGo rfl (fun _ => rfl) ((works_ct).mono ?_)
  rintro v' L2 ⟨rfl, hL⟩
  rw [hL]
  clear hL
  refine yG ?_
  refine OS.call noGo rfl (fun _ => rfl) ((large_ct hv hn hw).mono ?_)
  rintro v' L2 ⟨b, rfl, hb, hL⟩
  rw [hL]
  clear hL
  rcases tf b with h1 | h1
  · rw [h1]
    refine yG ?_
    refine OS.call noGo rfl (fun _ => rfl) ((works_ct).mono ?_)
    rintro v' L2 ⟨rfl, hL⟩
    refine yG ?_
    rfl
  have hf3 := hb h1
  have hf := hf3.fit
  have h3 := hf3.1
  have hfb := Fit.brk (w := ws) (by omega) hf.2
  rw [h1]
  have hpI := Parse_ct hW (by omega : ws.length ≤ 1000000)
  have hplain := fun M (hM : ∀ p, p ∈ L → p ∈ M) => plain_ct (hW.mono hM) hf
  have hopb := fun x (h : parse (brk ws) = .ok x []) => op_brk (parse_sd h)
  have hpl := fun (h : plainB ws = true) => plain_pl h
  have hsame : ∀ x r, parse ws = .ok x r → Pl ws → parse (brk ws) = .ok (.cons (.cons (.par x) .nil) .nil) [] ∨ parse (brk ws) = .err 65 := fun x r h hp =>
    Sd.parse (sd_brk (parse_sd h) hp (parse_sd h) hp (parse_sd h) hp)
  refine yG ?_
  refine OS.call noGo rfl (fun _ => rfl) ((hpI).mono ?_)
  obtain ⟨res, hres⟩ : ∃ res, parse ws = res := ⟨_, rfl⟩
  obtain ⟨re2, hre2⟩ : ∃ res, parse (brk ws) = res := ⟨_, rfl⟩
  rw [hres]
  cases res with
  | err e =>
    rintro v' L2 ⟨rfl, he, hL⟩
    rw [hL]
    clear hL
    refine yG ?_
    refine OS.call noGo rfl (fun _ => rfl) ((round_ct hv (by omega)).mono ?_)
    rintro v' L2 hg
    have hvg := hv.mono hg.mem
    refine yG ?_
    refine OS.call noGo rfl (fun _ => rfl) ((Parse_ct hg.wl (by rw [brk_len]; omega)).mono ?_)
    rw [hre2]
    cases re2 with
    | err f =>
      rintro v' L3 ⟨rfl, hf, hL⟩
      rw [hL]
      clear hL
      rcases he with rfl | rfl <;> rcases hf with rfl | rfl
      all_goals
        refine yG ?_
        rfl
    | ok x2 r2 =>
      have hop := hopb x2 (by
        rw [hre2]; congr 1
        unfold parse at hre2
        cases hq : pr (fuel .c (brk ws)) .c 0 (brk ws) with
        | err e => rw [hq] at hre2; cases hre2
        | ok c r' =>
          rw [hq] at hre2
          cases r' with
          | nil => cases hre2; rfl
          | cons _ _ => cases hre2)
      rintro v' L3 ⟨u, Y, rfl, rfl, hx⟩
      have ho := opens_ct (hvg.mono fun p hp => List.mem_append_right Y hp) (by omega : ws.length ≤ 100000)
      rcases he with rfl | rfl
      all_goals
        refine yG ?_
        refine OS.call noGo rfl (fun _ => rfl) ((ho).mono ?_)
        rintro v' L4 ⟨b2, rfl, hb2, hL⟩
        rw [hL, hb2 hop]
        clear hL
        refine yG ?_
        rfl
  | ok x r =>
    obtain ⟨hz, htx, hsm⟩ := parse_fit hres hf
    have hsd := parse_sd hres
    rintro v' L2 ⟨u, Y, rfl, rfl, hx⟩
    have hvY := hv.mono fun p hp => List.mem_append_right Y hp
    refine yG ?_
    refine OS.call noGo rfl (fun _ => rfl) ((round_ct hvY (by omega)).mono ?_)
    rintro v' L2 hg
    have hvg := hvY.mono hg.mem
    have hWg := hW.mono fun p hp => hg.mem p (List.mem_append_right Y hp)
    have hxg := hx.mono fun p hp => hg.mem p (List.mem_append_left _ hp)
    refine yG ?_
    refine OS.call noGo rfl (fun _ => rfl) ((Parse_ct hg.wl (by rw [brk_len]; omega)).mono ?_)
    rw [hre2]
    have hplg := hplain L2 fun p hp => hg.mem p (List.mem_append_right Y hp)
    cases re2 with
    | err f =>
      rintro v' L3 ⟨rfl, hf, hL⟩
      rw [hL]
      clear hL
      refine yG ?_
      refine OS.call noGo rfl (fun _ => rfl) ((hplg).mono ?_)
      rintro v' L3 ⟨rfl, hL⟩
      rw [hL]
      clear hL
      obtain ⟨pb, hpb⟩ : ∃ b, plainB ws = b := ⟨_, rfl⟩
      rw [hpb]
      cases pb with
      | false =>
        refine yG ?_
        rfl
      | true =>
        obtain ⟨_, _, hp⟩ := hpl hpb
        have hf65 : f = 65 := by
          rcases hsame x r hres hp with h | h
          · rw [hre2] at h; cases h
          · rw [hre2] at h; cases h; rfl
        subst hf65
        refine yG ?_
        rfl
    | ok x2 r2 =>
      rintro v' L3 ⟨u2, Y2, rfl, rfl, hx2⟩
      have hplg2 := hplain (Y2 ++ L2) fun p hp => List.mem_append_right _ (hg.mem p (List.mem_append_right Y hp))
      refine yG ?_
      refine OS.call noGo rfl (fun _ => rfl) ((hplg2).mono ?_)
      rintro v' L3 ⟨rfl, hL⟩
      rw [hL]
      clear hL
      obtain ⟨pb, hpb⟩ : ∃ b, plainB ws = b := ⟨_, rfl⟩
      rw [hpb]
      cases pb with
      | false =>
        refine yG ?_
        rfl
      | true =>
        obtain ⟨_, _, hp⟩ := hpl hpb
        have hx2e : x2 = .cons (.cons (.par x) .nil) .nil := by
          rcases hsame x r hres hp with h | h
          · rw [hre2] at h; cases h; rfl
          · rw [hre2] at h; cases h
        obtain ⟨hz2, htx2, hsm2⟩ := parse_fit hre2 hfb
        subst hx2e
        have hev2 : ev .c (.cons (.cons (.par x) .nil) .nil) = ev .c x := by simp [ev]
        have htx2e : tx .c (.cons (.cons (.par x) .nil) .nil) = tx .c x := by simp [tx]
        have hx1 := hxg.mono fun p hp => List.mem_append_right Y2 hp
        have hx2' := hx2.mono (M := Y2 ++ L2) fun p hp => List.mem_append_left _ hp
        have hv2 := hvg.mono fun p hp => List.mem_append_right Y2 hp
        generalize Y2 ++ L2 = N at hx1 hx2' hv2 ⊢
        refine yG ?_
        refine OS.call noGo rfl (fun _ => rfl) ((Words_ct hx1 (by omega)).mono ?_)
        rintro v' L4 hg4
        have hx1 := hx1.mono hg4.mem
        have hx2' := hx2'.mono hg4.mem
        have hv2 := hv2.mono hg4.mem
        refine yG ?_
        refine OS.call noGo rfl (fun _ => rfl) ((Parse_ct hg4.wl (by omega)).mono ?_)
        rw [hres]
        rintro v' L5 ⟨u3, Y3, rfl, rfl, hx3⟩
        have hx3 := hx3.mono (M := Y3 ++ L4) fun p hp => List.mem_append_left _ hp
        have hx1 := hx1.mono fun p hp => List.mem_append_right Y3 hp
        have hx2' := hx2'.mono fun p hp => List.mem_append_right Y3 hp
        have hv2 := hv2.mono fun p hp => List.mem_append_right Y3 hp
        generalize Y3 ++ L4 = N2 at hx1 hx2' hx3 hv2 ⊢
        refine yG ?_
        refine OS.call noGo rfl (fun _ => rfl) ((Eval_ct hx1 hz hsm).mono ?_)
        rintro v' L6 ⟨rfl, hL⟩
        rw [hL]
        clear hL
        refine yG ?_
        refine OS.call noGo rfl (fun _ => rfl) ((Eval_ct hx2' hz2 hsm2).mono ?_)
        rintro v' L6 ⟨rfl, hL⟩
        rw [hL, hev2]
        clear hL
        have hb : (ev .c x == ev .c x) = true := by simp
        refine yG ?_
        refine OS.call noGo rfl (fun _ => rfl) ((Texts_ct hx1 hz htx).mono ?_)
        rintro v' L6 hg6
        have hx1 := hx1.mono hg6.mem
        have hx2' := hx2'.mono hg6.mem
        have hx3 := hx3.mono hg6.mem
        have hv2 := hv2.mono hg6.mem
        have hs6 := hg6.sv
        refine yG ?_
        refine OS.call noGo rfl (fun _ => rfl) ((Texts_ct hx2' hz2 htx2).mono ?_)
        rw [htx2e]
        rintro v' L7 hg7
        have hx1 := hx1.mono hg7.mem
        have hx2' := hx2'.mono hg7.mem
        have hx3 := hx3.mono hg7.mem
        have hv2 := hv2.mono hg7.mem
        have hs7 := hg7.sv
        have b1 : ieqB (((tx .c x).length : Nat) : Int) ((tx .c x).length : Nat) = true := by rw [ieqB_eq]; simp
        refine yG ?_
        refine OS.call noGo rfl (fun _ => rfl) ((Words_ct hx2' (by rw [brk_len]; omega)).mono ?_)
        rintro v' L8 hg8
        have hx1 := hx1.mono hg8.mem
        have hx3 := hx3.mono hg8.mem
        have hv2 := hv2.mono hg8.mem
        have hs8 := hg8.sv
        have b2 : ieqB (((brk ws).length : Nat) : Int) ((ws.length + 2 : Nat) : Int) = true := by rw [brk_len, ieqB_eq]; simp
        refine yG ?_
        refine OS.pure rfl (y_addN (n := 2) rfl rfl rfl (in_i64 (by omega) (by omega))) rfl ?_
        refine yG ?_
        refine OS.call noGo rfl (fun _ => rfl) ((Eval_ct hx3 hz hsm).mono ?_)
        rintro v' L9 ⟨rfl, hL⟩
        rw [hL]
        clear hL
        refine yG ?_
        refine OS.call noGo rfl (fun _ => rfl) ((Eval_ct hx1 hz hsm).mono ?_)
        rintro v' L9 ⟨rfl, hL⟩
        rw [hL]
        clear hL
        refine yG ?_
        rfl
end Go.Proofs.Ytdacddkelagdnaa
