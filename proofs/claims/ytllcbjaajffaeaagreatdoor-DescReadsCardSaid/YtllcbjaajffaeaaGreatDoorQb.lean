import Derived.Test.YtllcbjaajffaeaaGreatDoorQa
import Derived.Test.YtllcbjaajffaeaaGreatDoorRyM
namespace Go.Proofs.YtllcbjaajffaeaaGreatDoor
set_option linter.unusedSimpArgs false
open Go.Am Go.Pd
set_option linter.unusedVariables false
set_option maxRecDepth 20000
set_option maxHeartbeats 4000000
attribute [local irreducible] OS LSr ODS CS YS
section
variable {L : RL}
theorem name_cases (w : W) (j : Nat) :
    (isName w j = true ∧ ((bytesEq w [117, 115, 101] = true) ∨ (bytesEq w [117, 115, 101] = false ∧ bytesEq w [110, 101, 101, 100, 115] = true) ∨ (bytesEq w [117, 115, 101] = false ∧ bytesEq w [110, 101, 101, 100, 115] = false ∧ bytesEq w [116, 97, 103, 115] = true) ∨
      (bytesEq w [117, 115, 101] = false ∧ bytesEq w [110, 101, 101, 100, 115] = false ∧ bytesEq w [116, 97, 103, 115] = false ∧ ieqB ((j : Nat) : Int) 0 = true ∧ bytesEq w [118, 97, 114] = true) ∨
      (bytesEq w [117, 115, 101] = false ∧ bytesEq w [110, 101, 101, 100, 115] = false ∧ bytesEq w [116, 97, 103, 115] = false ∧ ieqB ((j : Nat) : Int) 0 = true ∧ bytesEq w [118, 97, 114] = false ∧ bytesEq w [97, 120, 105, 115] = true))) ∨
    (isName w j = false ∧ bytesEq w [117, 115, 101] = false ∧ bytesEq w [110, 101, 101, 100, 115] = false ∧ bytesEq w [116, 97, 103, 115] = false ∧ (ieqB ((j : Nat) : Int) 0 = false ∨ (ieqB ((j : Nat) : Int) 0 = true ∧ bytesEq w [118, 97, 114] = false ∧ bytesEq w [97, 120, 105, 115] = false))) := by
  have e : isName w j = (bytesEq w [117, 115, 101] || (bytesEq w [110, 101, 101, 100, 115] || (bytesEq w [116, 97, 103, 115] || (ieqB ((j : Nat) : Int) 0 && (bytesEq w [118, 97, 114] || bytesEq w [97, 120, 105, 115]))))) := by
    have h0 : ieqB ((j : Nat) : Int) 0 = decide (j = 0) := by rw [show (0 : Int) = ((0 : Nat) : Int) from rfl, n_is]; rfl
    simp only [beq_bytes, h0, isName, kUse, kNeeds, kTags, kVar, kAxis]
    rw [Bool.eq_iff_iff]
    simp only [Bool.or_eq_true, Bool.and_eq_true, decide_eq_true_eq]
    exact decide_eq_true_iff
  rw [e]
  generalize bytesEq w [117, 115, 101] = a
  generalize bytesEq w [110, 101, 101, 100, 115] = b
  generalize bytesEq w [116, 97, 103, 115] = c
  generalize ieqB ((j : Nat) : Int) 0 = d
  generalize bytesEq w [118, 97, 114] = f
  generalize bytesEq w [97, 120, 105, 115] = g
  cases a <;> cases b <;> cases c <;> cases d <;> cases f <;> cases g <;> simp
theorem args_ct {w : W} {a : List W} {av : Value} (hv : Wd L av a) (hn : a.length ≤ 1000) (hw : ∀ x, x ∈ a → x.length ≤ 1000) (h0 : (w = kTries ∨ w = kLimit) → a ≠ []) : CS Tryz.prog 76 [str w, av] L fun v L' => v = .int .i64 (argsE chk w a : Nat) ∧ L' = L := by
  obtain ⟨avA, avc, rfl⟩ := hv.form
  have hs := hv.sv
  unfold argsE
  refine CS.mk (fn := Tryz.f76) rfl rfl rfl rfl ?_
  refine yG ?_
  refine LS.loopJ [0, 1, 5] (fun q s L' => ∃ j : Nat, q = a.length - j ∧ j ≤ a.length ∧ badName w 0 a = badName w j (a.drop j) ∧ L' = L ∧ s = [str w, .slice avA a.length avc, .chan none, .chan none, .chan none, .int .i64 (j : Nat), .chan none, .chan none, .chan none, .chan none, .chan none, .chan none, .chan none, .chan none, .chan none, .chan none, .chan none, .chan none, .chan none, .chan none, .chan none, .chan none, .chan none, .chan none, .chan none, .chan none, .chan none, .chan none, .chan none, .chan none, .chan none, .chan none, .chan none, .chan none, .chan none, .chan none, .chan none, .chan none, .chan none, .chan none, .chan none, .chan none, .chan none, .chan none, .chan none, .chan none, .chan none, .chan none, .chan none, .chan none, .chan none, .chan none, .chan none, .chan none, .chan none, .chan none, .chan none, .chan none, .chan none, .chan none, .chan none, .chan none, .chan none, .chan none, .chan none, .chan none, .chan none, .chan none, .chan none, .chan none, .chan none, .chan none, .chan none, .chan none, .chan none, .chan none, .chan none, .chan none, .chan none, .chan none, .chan none, .chan none, .chan none, .chan none, .chan none, .chan none, .chan none, .chan none, .chan none, .chan none, .chan none, .chan none, .chan none, .chan none, .chan none, .chan none, .chan none, .chan none, .chan none, .chan none, .chan none, .chan none, .chan none, .chan none, .chan none, .chan none, .chan none, .chan none, .chan none, .chan none, .chan none, .chan none, .chan none, .chan none, .chan none, .chan none, .chan none, .chan none, .chan none, .chan none, .chan none, .chan none, .chan none, .chan none, .chan none, .chan none, .chan none, .chan none, .chan none, .chan none, .chan none]) (n := a.length) rfl ⟨0, rfl, by omega, rfl, rfl, rfl⟩ ?_
  rintro q s L' ⟨j, rfl, hj, hE, rfl, rfl⟩
  by_cases hjn : j < a.length
  · have hb : (!ileB ((a.length : Nat) : Int) (j : Nat)) = true := by rw [ileB_eq]; simp; omega
    have hget : (strs a)[j]? = some (str (a[j]'hjn)) := strs_at hjn
    have hxl := hw _ (List.getElem_mem hjn)
    rw [List.drop_eq_getElem_cons hjn, badName] at hE
    generalize a[j] = x at hget hxl hE
    rcases name_cases w j with ⟨hi, h⟩ | ⟨hi, h1, h2, h3, h⟩
    · rw [hi, Bool.true_and] at hE
      rcases h with h1 | ⟨h1, h2⟩ | ⟨h1, h2, h3⟩ | ⟨h1, h2, h3, h4, h5⟩ | ⟨h1, h2, h3, h4, h5, h6⟩
      all_goals
        refine yG ?_
        refine OS.at1 (j := j) (hs) (hget) rfl rfl rfl rfl rfl rfl (fun ra0 oa0 rowa0 csa0 ma0 ca0 ga0 => ⟨_, rfl, ?_⟩)
        refine OS.read rfl (e_loadm ma0 ca0 rfl rfl (part_one rfl ga0)) rfl ?_
        refine OS.call noGo rfl (fun _ => rfl) ((refName_ct x (by omega)).mono ?_)
        rintro v L' ⟨rfl, hL⟩
        rw [hL]
        clear hL
        refine ⟨_, rfl, ?_⟩
        rcases tf (nameB x) with hx | hx <;> rw [hx] at hE ⊢
        · simp only [Bool.not_true, Bool.false_or] at hE
          refine yG ?_
          exact ⟨a.length - (j + 1), by omega, j + 1, rfl, by omega, hE, rfl, rfl⟩
        · simp only [Bool.not_false, Bool.true_or] at hE
          refine yG ?_
          rw [if_pos hE]
          exact ⟨rfl, rfl⟩
    · rw [hi, Bool.false_and, Bool.false_or] at hE
      rcases h with h4 | ⟨h4, h5, h6⟩
      all_goals
        refine yG ?_
        exact ⟨a.length - (j + 1), by omega, j + 1, rfl, by omega, hE, rfl, rfl⟩
  have hb : (!ileB ((a.length : Nat) : Int) (j : Nat)) = false := by rw [ileB_eq]; simp; omega
  rw [List.drop_eq_nil_of_le (by omega), badName] at hE
  rw [if_neg (by rw [hE]; simp)]
  refine yG ?_
  refine LS.exit ?_
  refine yG ?_
  refine LS.loopJ [0, 1, 7] (fun q s M => ∃ j : Nat, q = a.length - j ∧ j ≤ a.length ∧ badForm chk w 0 a = badForm chk w j (a.drop j) ∧ M = L' ∧ s = [str w, .slice avA a.length avc, .chan none, .chan none, .chan none, .chan none, .chan none, .int .i64 (j : Nat), .chan none, .chan none, .chan none, .chan none, .chan none, .chan none, .chan none, .chan none, .chan none, .chan none, .chan none, .chan none, .chan none, .chan none, .chan none, .chan none, .chan none, .chan none, .chan none, .chan none, .chan none, .chan none, .chan none, .chan none, .chan none, .chan none, .chan none, .chan none, .chan none, .chan none, .chan none, .chan none, .chan none, .chan none, .chan none, .chan none, .chan none, .chan none, .chan none, .chan none, .chan none, .chan none, .chan none, .chan none, .chan none, .chan none, .chan none, .chan none, .chan none, .chan none, .chan none, .chan none, .chan none, .chan none, .chan none, .chan none, .chan none, .chan none, .chan none, .chan none, .chan none, .chan none, .chan none, .chan none, .chan none, .chan none, .chan none, .chan none, .chan none, .chan none, .chan none, .chan none, .chan none, .chan none, .chan none, .chan none, .chan none, .chan none, .chan none, .chan none, .chan none, .chan none, .chan none, .chan none, .chan none, .chan none, .chan none, .chan none, .chan none, .chan none, .chan none, .chan none, .chan none, .chan none, .chan none, .chan none, .chan none, .chan none, .chan none, .chan none, .chan none, .chan none, .chan none, .chan none, .chan none, .chan none, .chan none, .chan none, .chan none, .chan none, .chan none, .chan none, .chan none, .chan none, .chan none, .chan none, .chan none, .chan none, .chan none, .chan none, .chan none, .chan none, .chan none]) (n := a.length) rfl ⟨0, rfl, by omega, rfl, rfl, rfl⟩ ?_
  rintro q s M ⟨j, rfl, hj, hE, rfl, rfl⟩
  by_cases hjn : j < a.length
  · have hb : (!ileB ((a.length : Nat) : Int) (j : Nat)) = true := by rw [ileB_eq]; simp; omega
    have hget : (strs a)[j]? = some (str (a[j]'hjn)) := strs_at hjn
    have hxl := hw _ (List.getElem_mem hjn)
    rw [List.drop_eq_getElem_cons hjn, badForm] at hE
    generalize a[j] = x at hget hxl hE
    by_cases w1 : w = kInclude
    · have c1 : bytesEq w [105, 110, 99, 108, 117, 100, 101] = true := by rw [beq_bytes, w1]; rfl
      have c2 : bytesEq w [111, 110] = false := by rw [beq_bytes, w1]; rfl
      have c3 : bytesEq w [112, 97, 116, 104, 115] = false := by rw [beq_bytes, w1]; rfl
      have c4 : bytesEq w [107, 101, 101, 112] = false := by rw [beq_bytes, w1]; rfl
      have c5 : bytesEq w [97, 120, 105, 115] = false := by rw [beq_bytes, w1]; rfl
      have d1 : decide (w = kInclude) = true := decide_eq_true w1
      have d2 : decide (w = kOn ∨ w = kPaths ∨ w = kKeep) = false := by rw [w1]; decide
      have d3 : decide (w = kAxis) = false := by rw [w1]; decide
      rw [d1, d2, d3] at hE
      simp only [Bool.true_and, Bool.false_and, Bool.or_false, Bool.false_or] at hE
      refine yG ?_
      refine OS.at1 (j := j) (hs) (hget) rfl rfl rfl rfl rfl rfl (fun ra0 oa0 rowa0 csa0 ma0 ca0 ga0 => ⟨_, rfl, ?_⟩)
      refine OS.read rfl (e_loadm ma0 ca0 rfl rfl (part_one rfl ga0)) rfl ?_
      refine OS.call noGo rfl (fun _ => rfl) ((refPath_ct x (by omega)).mono ?_)
      rintro v L' ⟨rfl, hL⟩
      rw [hL]
      clear hL
      refine ⟨_, rfl, ?_⟩
      rcases tf (pathB x) with hx | hx <;> rw [hx] at hE ⊢
      · simp only [Bool.not_true, Bool.false_or] at hE
        refine yG ?_
        exact ⟨a.length - (j + 1), by omega, j + 1, rfl, by omega, hE, rfl, rfl⟩
      · simp only [Bool.not_false, Bool.true_or] at hE
        refine yG ?_
        rw [if_pos hE]
        exact ⟨rfl, rfl⟩
    have c1 : bytesEq w [105, 110, 99, 108, 117, 100, 101] = false := by rw [beq_bytes]; exact decide_eq_false w1
    have d1 : decide (w = kInclude) = false := decide_eq_false w1
    by_cases w2 : w = kOn ∨ w = kPaths ∨ w = kKeep
    · have d2 : decide (w = kOn ∨ w = kPaths ∨ w = kKeep) = true := decide_eq_true w2
      have d3 : decide (w = kAxis) = false := by rcases w2 with rfl | rfl | rfl <;> rfl
      have c5 : bytesEq w [97, 120, 105, 115] = false := by rw [beq_bytes]; exact d3
      have c2 : bytesEq w [111, 110] = true ∨ (bytesEq w [111, 110] = false ∧ bytesEq w [112, 97, 116, 104, 115] = true) ∨ (bytesEq w [111, 110] = false ∧ bytesEq w [112, 97, 116, 104, 115] = false ∧ bytesEq w [107, 101, 101, 112] = true) := by
        rcases w2 with rfl | rfl | rfl
        · exact .inl rfl
        · exact .inr (.inl ⟨rfl, rfl⟩)
        · exact .inr (.inr ⟨rfl, rfl, rfl⟩)
      rw [d1, d2, d3] at hE
      simp only [Bool.true_and, Bool.false_and, Bool.or_false, Bool.false_or] at hE
      rcases c2 with c2 | ⟨c2, c3⟩ | ⟨c2, c3, c4⟩
      all_goals
        refine yG ?_
        refine OS.at1 (j := j) (hs) (hget) rfl rfl rfl rfl rfl rfl (fun ra0 oa0 rowa0 csa0 ma0 ca0 ga0 => ⟨_, rfl, ?_⟩)
        refine OS.read rfl (e_loadm ma0 ca0 rfl rfl (part_one rfl ga0)) rfl ?_
        refine OS.call noGo rfl (fun _ => rfl) ((refCheck_ct x).mono ?_)
        rintro v L' ⟨rfl, hL⟩
        rw [hL]
        clear hL
        by_cases hx : chk x = 0
        · have hx2 : (!ieqB (chk x) 0) = false := by rw [ieqB_eq, hx]; simp
          rw [decide_eq_true hx] at hE
          simp only [Bool.not_true, Bool.false_or] at hE
          refine ⟨_, rfl, ?_⟩
          refine yG ?_
          exact ⟨a.length - (j + 1), by omega, j + 1, rfl, by omega, hE, rfl, rfl⟩
        · have hx2 : (!ieqB (chk x) 0) = true := by rw [ieqB_eq]; simpa using hx
          rw [decide_eq_false hx] at hE
          simp only [Bool.not_false, Bool.true_or] at hE
          refine ⟨_, rfl, ?_⟩
          refine yG ?_
          rw [if_pos hE]
          exact ⟨rfl, rfl⟩
    have d2 : decide (w = kOn ∨ w = kPaths ∨ w = kKeep) = false := decide_eq_false w2
    simp only [not_or] at w2
    have c2 : bytesEq w [111, 110] = false := by rw [beq_bytes]; exact decide_eq_false w2.1
    have c3 : bytesEq w [112, 97, 116, 104, 115] = false := by rw [beq_bytes]; exact decide_eq_false w2.2.1
    have c4 : bytesEq w [107, 101, 101, 112] = false := by rw [beq_bytes]; exact decide_eq_false w2.2.2
    rw [d1, d2] at hE
    simp only [Bool.false_and, Bool.false_or] at hE
    by_cases w3 : w = kAxis
    · have c5 : bytesEq w [97, 120, 105, 115] = true := by rw [beq_bytes]; exact decide_eq_true w3
      rw [decide_eq_true w3] at hE
      simp only [Bool.true_and] at hE
      by_cases hj0 : 0 < j
      · have hg : (!ileB ((j : Nat) : Int) 0) = true := by rw [ileB_eq]; simp; omega
        rw [decide_eq_true hj0] at hE
        simp only [Bool.true_and] at hE
        refine yG ?_
        refine OS.at1 (j := j) (hs) (hget) rfl rfl rfl rfl rfl rfl (fun ra0 oa0 rowa0 csa0 ma0 ca0 ga0 => ⟨_, rfl, ?_⟩)
        refine OS.read rfl (e_loadm ma0 ca0 rfl rfl (part_one rfl ga0)) rfl ?_
        refine OS.call noGo rfl (fun _ => rfl) ((refWord_ct x (by omega)).mono ?_)
        rintro v L' ⟨rfl, hL⟩
        rw [hL]
        clear hL
        refine ⟨_, rfl, ?_⟩
        rcases tf (wordB x) with hx | hx <;> rw [hx] at hE ⊢
        · simp only [Bool.not_true, Bool.false_or] at hE
          refine yG ?_
          exact ⟨a.length - (j + 1), by omega, j + 1, rfl, by omega, hE, rfl, rfl⟩
        · simp only [Bool.not_false, Bool.true_or] at hE
          refine yG ?_
          rw [if_pos hE]
          exact ⟨rfl, rfl⟩
      · have hg : (!ileB ((j : Nat) : Int) 0) = false := by rw [ileB_eq]; simp; omega
        rw [decide_eq_false hj0] at hE
        simp only [Bool.false_and, Bool.false_or] at hE
        refine yG ?_
        exact ⟨a.length - (j + 1), by omega, j + 1, rfl, by omega, hE, rfl, rfl⟩
    · have c5 : bytesEq w [97, 120, 105, 115] = false := by rw [beq_bytes]; exact decide_eq_false w3
      rw [decide_eq_false w3] at hE
      simp only [Bool.false_and, Bool.false_or] at hE
      refine yG ?_
      exact ⟨a.length - (j + 1), by omega, j + 1, rfl, by omega, hE, rfl, rfl⟩
  have hb : (!ileB ((a.length : Nat) : Int) (j : Nat)) = false := by rw [ileB_eq]; simp; omega
  rw [List.drop_eq_nil_of_le (by omega), badForm] at hE
  rw [if_neg (by rw [hE]; simp)]
  clear hE
  refine yG ?_
  refine LS.exit ?_
  by_cases w1 : w = kTries
  · have c1 : bytesEq w [116, 114, 105, 101, 115] = true := by rw [beq_bytes]; exact decide_eq_true w1
    have c2 : bytesEq w [108, 105, 109, 105, 116] = false := by rw [beq_bytes, w1]; rfl
    cases a with
    | nil => exact absurd rfl (h0 (.inl w1))
    | cons x r =>
      have hxl := hw x (List.mem_cons_self ..)
      have hE : badNum w (x :: r) = !(decide (1 ≤ numN x) && decide (numN x ≤ 5)) := by
        have d2 : decide (w = kLimit) = false := by rw [w1]; decide
        unfold badNum; rw [decide_eq_true w1, d2]; simp
      rw [hE]
      refine yG ?_
      refine OS.at1 (j := 0) (hs) (rfl) rfl rfl rfl rfl rfl rfl (fun ra0 oa0 rowa0 csa0 ma0 ca0 ga0 => ⟨_, rfl, ?_⟩)
      refine OS.read rfl (e_loadm ma0 ca0 rfl rfl (part_one rfl ga0)) rfl ?_
      refine OS.call noGo rfl (fun _ => rfl) ((refNumber_ct x (by omega)).mono ?_)
      rintro v L' ⟨rfl, hL⟩
      rw [hL]
      clear hL
      refine ⟨_, rfl, ?_⟩
      by_cases h1 : 1 ≤ numN x
      · have g1 : (!ileB 1 ((numN x : Nat) : Int)) = false := by rw [ileB_eq]; simp; omega
        refine yG ?_
        refine OS.at1 (j := 0) (hs) (rfl) rfl rfl rfl rfl rfl rfl (fun ra0 oa0 rowa0 csa0 ma0 ca0 ga0 => ⟨_, rfl, ?_⟩)
        refine OS.read rfl (e_loadm ma0 ca0 rfl rfl (part_one rfl ga0)) rfl ?_
        refine OS.call noGo rfl (fun _ => rfl) ((refNumber_ct x (by omega)).mono ?_)
        rintro v L' ⟨rfl, hL⟩
        rw [hL]
        clear hL
        refine ⟨_, rfl, ?_⟩
        by_cases h5 : numN x ≤ 5
        · have g2 : (!ileB ((numN x : Nat) : Int) 5) = false := by rw [ileB_eq]; simp; omega
          rw [decide_eq_true h1, decide_eq_true h5]
          refine yG ?_
          exact ⟨rfl, rfl⟩
        · have g2 : (!ileB ((numN x : Nat) : Int) 5) = true := by rw [ileB_eq]; simp; omega
          rw [decide_eq_true h1, decide_eq_false h5]
          refine yG ?_
          exact ⟨rfl, rfl⟩
      · have g1 : (!ileB 1 ((numN x : Nat) : Int)) = true := by rw [ileB_eq]; simp; omega
        rw [decide_eq_false h1]
        refine yG ?_
        exact ⟨rfl, rfl⟩
  have c1 : bytesEq w [116, 114, 105, 101, 115] = false := by rw [beq_bytes]; exact decide_eq_false w1
  by_cases w2 : w = kLimit
  · have c2 : bytesEq w [108, 105, 109, 105, 116] = true := by rw [beq_bytes]; exact decide_eq_true w2
    cases a with
    | nil => exact absurd rfl (h0 (.inr w2))
    | cons x r =>
      have hxl := hw x (List.mem_cons_self ..)
      have hE : badNum w (x :: r) = !(decide (1 ≤ numN x) && decide (numN x ≤ 1000)) := by
        unfold badNum; rw [decide_eq_false w1, decide_eq_true w2]; simp
      rw [hE]
      refine yG ?_
      refine OS.at1 (j := 0) (hs) (rfl) rfl rfl rfl rfl rfl rfl (fun ra0 oa0 rowa0 csa0 ma0 ca0 ga0 => ⟨_, rfl, ?_⟩)
      refine OS.read rfl (e_loadm ma0 ca0 rfl rfl (part_one rfl ga0)) rfl ?_
      refine OS.call noGo rfl (fun _ => rfl) ((refNumber_ct x (by omega)).mono ?_)
      rintro v L' ⟨rfl, hL⟩
      rw [hL]
      clear hL
      refine ⟨_, rfl, ?_⟩
      by_cases h1 : 1 ≤ numN x
      · have g1 : (!ileB 1 ((numN x : Nat) : Int)) = false := by rw [ileB_eq]; simp; omega
        refine yG ?_
        refine OS.at1 (j := 0) (hs) (rfl) rfl rfl rfl rfl rfl rfl (fun ra0 oa0 rowa0 csa0 ma0 ca0 ga0 => ⟨_, rfl, ?_⟩)
        refine OS.read rfl (e_loadm ma0 ca0 rfl rfl (part_one rfl ga0)) rfl ?_
        refine OS.call noGo rfl (fun _ => rfl) ((refNumber_ct x (by omega)).mono ?_)
        rintro v L' ⟨rfl, hL⟩
        rw [hL]
        clear hL
        refine ⟨_, rfl, ?_⟩
        by_cases h5 : numN x ≤ 1000
        · have g2 : (!ileB ((numN x : Nat) : Int) 1000) = false := by rw [ileB_eq]; simp; omega
          rw [decide_eq_true h1, decide_eq_true h5]
          refine yG ?_
          exact ⟨rfl, rfl⟩
        · have g2 : (!ileB ((numN x : Nat) : Int) 1000) = true := by rw [ileB_eq]; simp; omega
          rw [decide_eq_true h1, decide_eq_false h5]
          refine yG ?_
          exact ⟨rfl, rfl⟩
      · have g1 : (!ileB 1 ((numN x : Nat) : Int)) = true := by rw [ileB_eq]; simp; omega
        rw [decide_eq_false h1]
        refine yG ?_
        exact ⟨rfl, rfl⟩
  have c2 : bytesEq w [108, 105, 109, 105, 116] = false := by rw [beq_bytes]; exact decide_eq_false w2
  have hE : badNum w a = false := by
    unfold badNum; rw [decide_eq_false w1, decide_eq_false w2]; cases a <;> rfl
  rw [hE]
  refine yG ?_
  exact ⟨rfl, rfl⟩
end
end Go.Proofs.YtllcbjaajffaeaaGreatDoor
