/- Layer 13: the law ExpandSubst. -/
import Derived.Test.YtllcbjaajffaeaaXi
namespace Go.Proofs.Ytllcbjaajffaeaa
open Go.Am Go.Xp
set_option linter.unusedVariables false
set_option linter.unusedSimpArgs false
set_option maxRecDepth 20000
set_option maxHeartbeats 8000000
attribute [local irreducible] OS LSr ODS CS YS
theorem large13_ct {L : RL} {tv v : Value} {tp l : List (W × W)} (ht : SV 2 L tv tp.length (fl tp)) (hv : SV 2 L v l.length (fl l)) (htn : tp.length ≤ 1000) (hln : l.length ≤ 140737488355328) (htb : ∀ p, p ∈ tp → p.1.length ≤ 140737488355328 ∧ p.2.length ≤ 140737488355328) (hvb : ∀ p, p ∈ l → p.1.length ≤ 140737488355328 ∧ p.2.length ≤ 140737488355328) :
    CS Try.prog 9 [tv, v] L fun u L' => ∃ b, u = .bool b ∧ (b = false → (∀ p, p ∈ tp → p.1.length ≤ 20000 ∧ p.2.length ≤ 20000) ∧ l.length ≤ 20000 ∧ ∀ p, p ∈ l → p.1.length ≤ 20000 ∧ p.2.length ≤ 20000) ∧ L' = L := by
  refine CS.mk (fn := Try.f9) rfl rfl rfl rfl ?_
  refine yG ?_
  refine LS.loopJ [0, 1, 5, 6] (fun q a L2 => ∃ (i m : Nat), q = tp.length - i ∧ i ≤ tp.length ∧ m ≤ 500000000000000 ∧ (∀ p, p ∈ tp.take i → p.1.length ≤ m ∧ p.2.length ≤ m) ∧ L2 = L ∧ a = [tv, v, .chan none, .chan none, .chan none, .int .i64 (m : Nat), .int .i64 (i : Nat), .chan none, .chan none, .chan none, .chan none, .chan none, .chan none, .chan none, .chan none, .chan none, .chan none, .chan none, .chan none, .chan none, .chan none, .chan none, .chan none, .chan none, .chan none, .chan none, .chan none, .chan none, .chan none, .chan none, .chan none, .chan none, .chan none, .chan none, .chan none, .chan none, .chan none, .chan none, .chan none, .chan none, .chan none, .chan none, .chan none, .chan none, .chan none, .chan none, .chan none, .chan none, .chan none, .chan none, .chan none, .chan none, .chan none, .chan none, .chan none, .chan none, .chan none, .chan none, .chan none, .chan none, .chan none, .chan none]) (n := tp.length) rfl ⟨0, 0, rfl, by omega, by omega, fun p hp => by simp at hp, rfl, rfl⟩ ?_
  rintro q a L2 ⟨i, m, rfl, hi, hmb, ht2, hL, rfl⟩
  rw [hL]
  clear hL
  by_cases hgo : i < tp.length ∧ m < 20000
  · obtain ⟨hc, hm⟩ := hgo
    obtain ⟨p, hg⟩ := ext_list (l := tp) (k := i) (by omega)
    have hpb := htb _ (List.mem_of_getElem? hg)
    have a0 : (fl tp)[i * 2 + 0]? = some (str p.1) := by have := fl_at0 hg; rwa [Nat.zero_add] at this
    have a1 : (fl tp)[i * 2 + 1]? = some (str p.2) := by have := fl_at1 hg; rwa [Nat.zero_add] at this
    have b1 : (!ileB ((tp.length : Nat) : Int) (i : Nat)) = true := by rw [ileB_eq]; simp; omega
    have b2 : (!ileB 20000 ((m : Nat) : Int)) = true := by rw [ileB_eq]; simp; omega
    refine yG ?_
    repeat refine LS.seq ?_
    refine LS.drawn noGo mixed [(0, false), (1, false), (2, false), (3, false), (4, false), (5, false), (6, false), (7, false), (8, false), (9, false), (10, false), (11, false), (12, false), (13, false), (14, false), (15, false), (16, false)] rfl rfl (by kernel_rfl) ?_
    refine yG ?_
    try refine ODS.pure rfl rfl (e_addN (m := m) (n := 100) rfl rfl rfl (in_i64 (by omega) (by omega))) rfl ?_
    try refine yG ?_
    refine ODS.at (j := i) ht (by omega) rfl rfl rfl rfl rfl rfl rfl (fun r0 o0 row0 cs0 m0 c0 h0 k0 => ⟨_, rfl, ?_⟩)
    refine yG ?_
    refine ODS.read rfl rfl (e_loadm m0 c0 rfl rfl (part_one rfl (h0 0 _ (by decide) a0))) rfl ?_
    refine yG ?_
    try refine ODS.pure rfl rfl (e_addN (m := m + 100) (n := p.1.length) rfl rfl rfl (in_i64 (by omega) (by omega))) rfl ?_
    try refine yG ?_
    refine ODS.at (j := i) ht (by omega) rfl rfl rfl rfl rfl rfl rfl (fun r1 o1 row1 cs1 m1 c1 h1 k1 => ⟨_, rfl, ?_⟩)
    refine yG ?_
    refine ODS.read rfl rfl (e_loadm m1 c1 rfl rfl (part_one rfl (h1 1 _ (by decide) a1))) rfl ?_
    refine yG ?_
    try refine ODS.pure rfl rfl (e_addN (m := m + 100 + p.1.length) (n := p.2.length) rfl rfl rfl (in_i64 (by omega) (by omega))) rfl ?_
    try refine yG ?_

    exact ⟨tp.length - (i + 1), by omega, i + 1, m + 100 + p.1.length + p.2.length, rfl, by omega, by omega, fun x hx => by
      rw [take_one hg] at hx
      rcases List.mem_append.1 hx with hx | hx
      · have := ht2 x hx; omega
      · simp at hx; subst hx; omega, rfl, rfl⟩
  · have hend : m < 20000 → i = tp.length := fun h => by omega
    by_cases hc : i < tp.length
    · have b1 : (!ileB ((tp.length : Nat) : Int) (i : Nat)) = true := by rw [ileB_eq]; simp; omega
      have b2 : (!ileB 20000 ((m : Nat) : Int)) = false := by rw [ileB_eq]; simp; omega
      refine yG ?_
      refine LS.exit ?_
      refine yG ?_
      have hall : m < 20000 → ∀ p, p ∈ tp → p.1.length ≤ m ∧ p.2.length ≤ m := fun h => by
        obtain rfl := hend h
        rw [List.take_length] at ht2
        exact ht2
      refine LS.loopJ [1, 5, 7] (fun q a L2 => ∃ (j m2 : Nat), q = l.length - j ∧ j ≤ l.length ∧ m ≤ m2 ∧ 100 * j ≤ m2 ∧ m2 ≤ 1000000000000000 ∧ (∀ p, p ∈ l.take j → p.1.length ≤ m2 ∧ p.2.length ≤ m2) ∧ L2 = L ∧ a = [.chan none, v, .chan none, .chan none, .chan none, .int .i64 (m2 : Nat), .chan none, .int .i64 (j : Nat), .chan none, .chan none, .chan none, .chan none, .chan none, .chan none, .chan none, .chan none, .chan none, .chan none, .chan none, .chan none, .chan none, .chan none, .chan none, .chan none, .chan none, .chan none, .chan none, .chan none, .chan none, .chan none, .chan none, .chan none, .chan none, .chan none, .chan none, .chan none, .chan none, .chan none, .chan none, .chan none, .chan none, .chan none, .chan none, .chan none, .chan none, .chan none, .chan none, .chan none, .chan none, .chan none, .chan none, .chan none, .chan none, .chan none, .chan none, .chan none, .chan none, .chan none, .chan none, .chan none, .chan none, .chan none]) (n := l.length) rfl ⟨0, m, rfl, by omega, by omega, by omega, by omega, fun p hp => by simp at hp, rfl, rfl⟩ ?_
      rintro q a L2 ⟨j, m2, rfl, hj, hmm, hj2, hm22, hv2, hL, rfl⟩
      rw [hL]
      clear hL
      by_cases hgo2 : j < l.length ∧ m2 < 20000
      · obtain ⟨hc2, hm2⟩ := hgo2
        obtain ⟨p, hg⟩ := ext_list (l := l) (k := j) (by omega)
        have hpb := hvb _ (List.mem_of_getElem? hg)
        have a0 : (fl l)[j * 2 + 0]? = some (str p.1) := by have := fl_at0 hg; rwa [Nat.zero_add] at this
        have a1 : (fl l)[j * 2 + 1]? = some (str p.2) := by have := fl_at1 hg; rwa [Nat.zero_add] at this
        have b1 : (!ileB ((l.length : Nat) : Int) (j : Nat)) = true := by rw [ileB_eq]; simp; omega
        have b2 : (!ileB 20000 ((m2 : Nat) : Int)) = true := by rw [ileB_eq]; simp; omega
        refine yG ?_
        repeat refine LS.seq ?_
        refine LS.drawn noGo mixed [(0, false), (1, false), (2, false), (3, false), (4, false), (5, false), (6, false), (7, false), (8, false), (9, false), (10, false), (11, false), (12, false), (13, false), (14, false), (15, false), (16, false)] rfl rfl (by kernel_rfl) ?_
        refine yG ?_
        try refine ODS.pure rfl rfl (e_addN (m := m2) (n := 100) rfl rfl rfl (in_i64 (by omega) (by omega))) rfl ?_
        try refine yG ?_
        refine ODS.at (j := j) hv (by omega) rfl rfl rfl rfl rfl rfl rfl (fun r0 o0 row0 cs0 m0 c0 h0 k0 => ⟨_, rfl, ?_⟩)
        refine yG ?_
        refine ODS.read rfl rfl (e_loadm m0 c0 rfl rfl (part_one rfl (h0 0 _ (by decide) a0))) rfl ?_
        refine yG ?_
        try refine ODS.pure rfl rfl (e_addN (m := m2 + 100) (n := p.1.length) rfl rfl rfl (in_i64 (by omega) (by omega))) rfl ?_
        try refine yG ?_
        refine ODS.at (j := j) hv (by omega) rfl rfl rfl rfl rfl rfl rfl (fun r1 o1 row1 cs1 m1 c1 h1 k1 => ⟨_, rfl, ?_⟩)
        refine yG ?_
        refine ODS.read rfl rfl (e_loadm m1 c1 rfl rfl (part_one rfl (h1 1 _ (by decide) a1))) rfl ?_
        refine yG ?_
        try refine ODS.pure rfl rfl (e_addN (m := m2 + 100 + p.1.length) (n := p.2.length) rfl rfl rfl (in_i64 (by omega) (by omega))) rfl ?_
        try refine yG ?_

        exact ⟨l.length - (j + 1), by omega, j + 1, m2 + 100 + p.1.length + p.2.length, rfl, by omega, by omega, by omega, by omega, fun x hx => by
          rw [take_one hg] at hx
          rcases List.mem_append.1 hx with hx | hx
          · have := hv2 x hx; omega
          · simp at hx; subst hx; omega, rfl, rfl⟩
      · have hend2 : m2 < 20000 → j = l.length := fun h => by omega
        by_cases hc2 : j < l.length
        · have b1 : (!ileB ((l.length : Nat) : Int) (j : Nat)) = true := by rw [ileB_eq]; simp; omega
          have b2 : (!ileB 20000 ((m2 : Nat) : Int)) = false := by rw [ileB_eq]; simp; omega
          refine yG ?_
          refine LS.exit ?_
          by_cases hm3 : m2 < 20000
          · have q3 : ileB 20000 ((m2 : Nat) : Int) = false := by rw [ileB_eq]; simp; omega
            refine yG ?_
            refine ⟨fun _ => ?_, rfl⟩
            obtain rfl := hend2 hm3
            rw [List.take_length] at hv2
            exact ⟨fun p hp => by have := hall (by omega) p hp; omega, by omega, fun p hp => by have := hv2 p hp; omega⟩
          · have q3 : ileB 20000 ((m2 : Nat) : Int) = true := by rw [ileB_eq]; simp; omega
            refine yG ?_
            exact ⟨fun h => (by cases h), rfl⟩

        · have b1 : (!ileB ((l.length : Nat) : Int) (j : Nat)) = false := by rw [ileB_eq]; simp; omega
          refine yG ?_
          refine LS.exit ?_
          by_cases hm3 : m2 < 20000
          · have q3 : ileB 20000 ((m2 : Nat) : Int) = false := by rw [ileB_eq]; simp; omega
            refine yG ?_
            refine ⟨fun _ => ?_, rfl⟩
            obtain rfl := hend2 hm3
            rw [List.take_length] at hv2
            exact ⟨fun p hp => by have := hall (by omega) p hp; omega, by omega, fun p hp => by have := hv2 p hp; omega⟩
          · have q3 : ileB 20000 ((m2 : Nat) : Int) = true := by rw [ileB_eq]; simp; omega
            refine yG ?_
            exact ⟨fun h => (by cases h), rfl⟩

    · have b1 : (!ileB ((tp.length : Nat) : Int) (i : Nat)) = false := by rw [ileB_eq]; simp; omega
      refine yG ?_
      refine LS.exit ?_
      refine yG ?_
      have hall : m < 20000 → ∀ p, p ∈ tp → p.1.length ≤ m ∧ p.2.length ≤ m := fun h => by
        obtain rfl := hend h
        rw [List.take_length] at ht2
        exact ht2
      refine LS.loopJ [1, 5, 7] (fun q a L2 => ∃ (j m2 : Nat), q = l.length - j ∧ j ≤ l.length ∧ m ≤ m2 ∧ 100 * j ≤ m2 ∧ m2 ≤ 1000000000000000 ∧ (∀ p, p ∈ l.take j → p.1.length ≤ m2 ∧ p.2.length ≤ m2) ∧ L2 = L ∧ a = [.chan none, v, .chan none, .chan none, .chan none, .int .i64 (m2 : Nat), .chan none, .int .i64 (j : Nat), .chan none, .chan none, .chan none, .chan none, .chan none, .chan none, .chan none, .chan none, .chan none, .chan none, .chan none, .chan none, .chan none, .chan none, .chan none, .chan none, .chan none, .chan none, .chan none, .chan none, .chan none, .chan none, .chan none, .chan none, .chan none, .chan none, .chan none, .chan none, .chan none, .chan none, .chan none, .chan none, .chan none, .chan none, .chan none, .chan none, .chan none, .chan none, .chan none, .chan none, .chan none, .chan none, .chan none, .chan none, .chan none, .chan none, .chan none, .chan none, .chan none, .chan none, .chan none, .chan none, .chan none, .chan none]) (n := l.length) rfl ⟨0, m, rfl, by omega, by omega, by omega, by omega, fun p hp => by simp at hp, rfl, rfl⟩ ?_
      rintro q a L2 ⟨j, m2, rfl, hj, hmm, hj2, hm22, hv2, hL, rfl⟩
      rw [hL]
      clear hL
      by_cases hgo2 : j < l.length ∧ m2 < 20000
      · obtain ⟨hc2, hm2⟩ := hgo2
        obtain ⟨p, hg⟩ := ext_list (l := l) (k := j) (by omega)
        have hpb := hvb _ (List.mem_of_getElem? hg)
        have a0 : (fl l)[j * 2 + 0]? = some (str p.1) := by have := fl_at0 hg; rwa [Nat.zero_add] at this
        have a1 : (fl l)[j * 2 + 1]? = some (str p.2) := by have := fl_at1 hg; rwa [Nat.zero_add] at this
        have b1 : (!ileB ((l.length : Nat) : Int) (j : Nat)) = true := by rw [ileB_eq]; simp; omega
        have b2 : (!ileB 20000 ((m2 : Nat) : Int)) = true := by rw [ileB_eq]; simp; omega
        refine yG ?_
        repeat refine LS.seq ?_
        refine LS.drawn noGo mixed [(0, false), (1, false), (2, false), (3, false), (4, false), (5, false), (6, false), (7, false), (8, false), (9, false), (10, false), (11, false), (12, false), (13, false), (14, false), (15, false), (16, false)] rfl rfl (by kernel_rfl) ?_
        refine yG ?_
        try refine ODS.pure rfl rfl (e_addN (m := m2) (n := 100) rfl rfl rfl (in_i64 (by omega) (by omega))) rfl ?_
        try refine yG ?_
        refine ODS.at (j := j) hv (by omega) rfl rfl rfl rfl rfl rfl rfl (fun r0 o0 row0 cs0 m0 c0 h0 k0 => ⟨_, rfl, ?_⟩)
        refine yG ?_
        refine ODS.read rfl rfl (e_loadm m0 c0 rfl rfl (part_one rfl (h0 0 _ (by decide) a0))) rfl ?_
        refine yG ?_
        try refine ODS.pure rfl rfl (e_addN (m := m2 + 100) (n := p.1.length) rfl rfl rfl (in_i64 (by omega) (by omega))) rfl ?_
        try refine yG ?_
        refine ODS.at (j := j) hv (by omega) rfl rfl rfl rfl rfl rfl rfl (fun r1 o1 row1 cs1 m1 c1 h1 k1 => ⟨_, rfl, ?_⟩)
        refine yG ?_
        refine ODS.read rfl rfl (e_loadm m1 c1 rfl rfl (part_one rfl (h1 1 _ (by decide) a1))) rfl ?_
        refine yG ?_
        try refine ODS.pure rfl rfl (e_addN (m := m2 + 100 + p.1.length) (n := p.2.length) rfl rfl rfl (in_i64 (by omega) (by omega))) rfl ?_
        try refine yG ?_

        exact ⟨l.length - (j + 1), by omega, j + 1, m2 + 100 + p.1.length + p.2.length, rfl, by omega, by omega, by omega, by omega, fun x hx => by
          rw [take_one hg] at hx
          rcases List.mem_append.1 hx with hx | hx
          · have := hv2 x hx; omega
          · simp at hx; subst hx; omega, rfl, rfl⟩
      · have hend2 : m2 < 20000 → j = l.length := fun h => by omega
        by_cases hc2 : j < l.length
        · have b1 : (!ileB ((l.length : Nat) : Int) (j : Nat)) = true := by rw [ileB_eq]; simp; omega
          have b2 : (!ileB 20000 ((m2 : Nat) : Int)) = false := by rw [ileB_eq]; simp; omega
          refine yG ?_
          refine LS.exit ?_
          by_cases hm3 : m2 < 20000
          · have q3 : ileB 20000 ((m2 : Nat) : Int) = false := by rw [ileB_eq]; simp; omega
            refine yG ?_
            refine ⟨fun _ => ?_, rfl⟩
            obtain rfl := hend2 hm3
            rw [List.take_length] at hv2
            exact ⟨fun p hp => by have := hall (by omega) p hp; omega, by omega, fun p hp => by have := hv2 p hp; omega⟩
          · have q3 : ileB 20000 ((m2 : Nat) : Int) = true := by rw [ileB_eq]; simp; omega
            refine yG ?_
            exact ⟨fun h => (by cases h), rfl⟩

        · have b1 : (!ileB ((l.length : Nat) : Int) (j : Nat)) = false := by rw [ileB_eq]; simp; omega
          refine yG ?_
          refine LS.exit ?_
          by_cases hm3 : m2 < 20000
          · have q3 : ileB 20000 ((m2 : Nat) : Int) = false := by rw [ileB_eq]; simp; omega
            refine yG ?_
            refine ⟨fun _ => ?_, rfl⟩
            obtain rfl := hend2 hm3
            rw [List.take_length] at hv2
            exact ⟨fun p hp => by have := hall (by omega) p hp; omega, by omega, fun p hp => by have := hv2 p hp; omega⟩
          · have q3 : ileB 20000 ((m2 : Nat) : Int) = true := by rw [ileB_eq]; simp; omega
            refine yG ?_
            exact ⟨fun h => (by cases h), rfl⟩

theorem expandSubst_ct {L : RL} {v : Value} {l : List (W × W)} {s : W} (hv : SV 2 L v l.length (fl l)) (hln : l.length ≤ 140737488355328) (hvb : ∀ p, p ∈ l → p.1.length ≤ 140737488355328 ∧ p.2.length ≤ 140737488355328) (hs : s.length ≤ 140737488355328) :
    CS Try.prog 3 [str s, v] L fun u _ => u = .bool true := by
  refine CS.mk (fn := Try.f3) rfl rfl rfl rfl ?_
  refine yG ?_
  refine OS.fresh rfl (e_new (fun _ => rfl) rfl) (fun _ => rfl) (fun rt => ?_)
  refine yG ?_
  refine OS.call noGo rfl (fun _ => rfl) ((large13_ct (tp := [([], s)]) (SV.row (List.mem_cons_self ..) rfl) hv.cons (by simp) hln (fun p hp => by simp at hp; subst hp; exact ⟨by simp, hs⟩) hvb).mono ?_)
  rintro u L2 ⟨b, rfl, hb, hL⟩
  rw [hL]
  clear hL
  rcases tf b with h1 | h1
  · rw [h1]
    refine yG ?_
    rfl
  obtain ⟨g1, g2, g3⟩ := hb h1
  have g1 : s.length ≤ 20000 := (g1 ([], s) (by simp)).2
  rw [h1]
  refine yG ?_
  refine OS.call noGo rfl (fun _ => rfl) ((Subst_ct s (by omega) hv.cons (by omega) (fun p hp => by have := g3 p hp; omega)).mono ?_)
  rintro u L2 ⟨rfl, hL⟩
  rw [hL]
  clear hL
  have href : ∀ {L : RL}, SV 2 L v l.length (fl l) → CS Try.prog 11 [str s, v] L fun u L' => u = putV (subst (Xp.look l) s) ∧ L' = L := fun h => refSubst_ct s (by omega) h (by omega) (fun p hp => by have := g3 p hp; omega)
  cases hsub : subst (Xp.look l) s with
  | ok o =>
    rw [hsub] at href
    have k1 : bytesEq o o = true := by rw [beq_bytes]; simp
    refine ⟨_, rfl, ?_⟩
    refine yG ?_
    refine OS.call noGo rfl (fun _ => rfl) ((href hv.cons).mono ?_)
    rintro u L2 ⟨rfl, hL⟩
    rw [hL]
    clear hL
    refine ⟨_, rfl, ?_⟩
    refine yG ?_
    rfl
  | error e =>
    rw [hsub] at href
    have k2 : ieqB ((e : Nat) : Int) (e : Nat) = true := by rw [ieqB_eq]; simp
    refine ⟨_, rfl, ?_⟩
    refine yG ?_
    refine OS.call noGo rfl (fun _ => rfl) ((href hv.cons).mono ?_)
    rintro u L2 ⟨rfl, hL⟩
    rw [hL]
    clear hL
    refine ⟨_, rfl, ?_⟩
    refine yG ?_
    rfl
end Go.Proofs.Ytllcbjaajffaeaa
