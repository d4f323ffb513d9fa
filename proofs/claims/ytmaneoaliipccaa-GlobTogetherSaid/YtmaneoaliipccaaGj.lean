/- Layer 10: GlobTogether. -/
import Derived.Test.YtmaneoaliipccaaGi
namespace Go.Proofs.Ytmaneoaliipccaa
open Go.Am
set_option linter.unusedVariables false
set_option maxRecDepth 20000
set_option maxHeartbeats 4000000
attribute [local irreducible] OS LSr ODS CS

def cutTo (p q s : List UInt8) (k : Nat) : Bool := (List.range k).any fun i => mt p (s.take i) && mt q (s.drop i)
theorem cutTo_succ (p q s : List UInt8) (k : Nat) : cutTo p q s (k + 1) = (cutTo p q s k || (mt p (s.take k) && mt q (s.drop k))) := by
  unfold cutTo
  rw [List.range_succ, List.any_append]
  simp
theorem mt_together {p q : List UInt8} (s : List UInt8) (hp : chk p = 0) (hq : chk q = 0) (hpq : chk (p ++ q) = 0) (h : p.getLast? = some 42 → q.head? ≠ some 42) : mt (p ++ q) s = cutTo p q s (s.length + 1) := by
  rw [Bool.eq_iff_iff]
  unfold cutTo mt
  rw [decide_eq_true hp, decide_eq_true hq, decide_eq_true hpq, Bool.true_and, ps_append _ (Nat.le_refl _) h, ms_append, List.any_eq_true]
  constructor
  · rintro ⟨a, b, rfl, ha, hb⟩
    refine ⟨a.length, List.mem_range.2 (by simp; omega), ?_⟩
    simp only [List.take_left, List.drop_left, ha, hb]
    rfl
  · rintro ⟨i, _, hi⟩
    simp only [Bool.true_and, Bool.and_eq_true] at hi
    exact ⟨s.take i, s.drop i, (List.take_append_drop i s).symm, hi.1, hi.2⟩
theorem togetherLaw_ct {L : RL} (p q s : List UInt8) : CS Try.prog 7 [str p, str q, str s] L fun v _ => v = .bool true := by
  have aw : ∀ L : RL, CS Try.prog 8 [] L fun v L' => v = .bool true ∧ L' = L := fun L => awake_ct
  refine CS.mk (fn := Try.f7) rfl rfl rfl rfl ?_
  by_cases h1 : 60 < p.length
  · have hb : (!ileB ((p.length : Nat) : Int) 60) = true := by rw [ileB_eq]; simp; omega
    refine yG ?_
    refine OS.call noGo rfl (fun _ => rfl) ((aw _).mono ?_)
    rintro v' L2 ⟨rfl, hL⟩
    refine yG ?_
    rfl
  have hb : (!ileB ((p.length : Nat) : Int) 60) = false := by rw [ileB_eq]; simp; omega
  by_cases h2 : 60 < q.length
  · have hb2 : (!ileB ((q.length : Nat) : Int) 60) = true := by rw [ileB_eq]; simp; omega
    refine yG ?_
    refine OS.call noGo rfl (fun _ => rfl) ((aw _).mono ?_)
    rintro v' L2 ⟨rfl, hL⟩
    refine yG ?_
    rfl
  have hb2 : (!ileB ((q.length : Nat) : Int) 60) = false := by rw [ileB_eq]; simp; omega
  by_cases h3 : 200 < s.length
  · have hb3 : (!ileB ((s.length : Nat) : Int) 200) = true := by rw [ileB_eq]; simp; omega
    refine yG ?_
    refine OS.call noGo rfl (fun _ => rfl) ((aw _).mono ?_)
    rintro v' L2 ⟨rfl, hL⟩
    refine yG ?_
    rfl
  have hb3 : (!ileB ((s.length : Nat) : Int) 200) = false := by rw [ileB_eq]; simp; omega
  refine yG ?_
  refine OS.call noGo rfl (fun _ => rfl) ((aw _).mono ?_)
  rintro v' L2 ⟨rfl, hL⟩
  rw [hL]
  clear hL
  refine yG ?_
  refine OS.call noGo rfl (fun _ => rfl) ((Check_ct p).mono ?_)
  rintro v' L2 ⟨rfl, hL⟩
  rw [hL]
  clear hL
  by_cases c1 : chk p = 0
  rotate_left
  · have b1 : (!ieqB (chk p) 0) = true := by rw [ieqB_eq]; simpa using c1
    refine yG ?_
    rfl
  have b1 : (!ieqB (chk p) 0) = false := by rw [ieqB_eq]; simpa using c1
  refine yG ?_
  refine OS.call noGo rfl (fun _ => rfl) ((Check_ct q).mono ?_)
  rintro v' L2 ⟨rfl, hL⟩
  rw [hL]
  clear hL
  by_cases c2 : chk q = 0
  rotate_left
  · have b2 : (!ieqB (chk q) 0) = true := by rw [ieqB_eq]; simpa using c2
    refine yG ?_
    rfl
  have b2 : (!ieqB (chk q) 0) = false := by rw [ieqB_eq]; simpa using c2
  refine yG ?_
  refine OS.pure rfl (e_cat rfl rfl rfl (by omega)) rfl ?_
  refine OS.call noGo rfl (fun _ => rfl) ((Check_ct (p ++ q)).mono ?_)
  rintro v' L2 ⟨rfl, hL⟩
  rw [hL]
  clear hL
  by_cases c3 : chk (p ++ q) = 0
  rotate_left
  · have b3 : (!ieqB (chk (p ++ q)) 0) = true := by rw [ieqB_eq]; simpa using c3
    refine yG ?_
    rfl
  have b3 : (!ieqB (chk (p ++ q)) 0) = false := by rw [ieqB_eq]; simpa using c3
  have hne : ∀ x, chk x = 0 → 0 < x.length := by
    intro x hx
    cases x with
    | nil => exact absurd hx (by decide)
    | cons c x => simp
  have hp0 := hne p c1
  have hq0 := hne q c2
  obtain ⟨c, hc⟩ := ext_list (l := p) (k := p.length - 1) (by omega)
  obtain ⟨d, hd⟩ := ext_list (l := q) (k := 0) (by omega)
  have main : ∀ L : RL, (p.getLast? = some 42 → q.head? ≠ some 42) → mt (p ++ q) s = cutTo p q s (s.length + 1) := fun L h => mt_together s c1 c2 c3 h
  have hlast : p.getLast? = some c := by rw [List.getLast?_eq_getElem?]; exact hc
  have hhead : q.head? = some d := by rw [List.head?_eq_getElem?]; exact hd
  rcases tf (ieqB ((c.toNat : Nat) : Int) 42) with k1 | k1
  · rcases tf (ieqB ((d.toNat : Nat) : Int) 42) with k2 | k2
    · refine yG ?_
      rfl
    have hst : mt (p ++ q) s = cutTo p q s (s.length + 1) := main L fun _ h => by
      rw [hhead] at h
      have : d = 42 := by simpa using h
      rw [cmp_u8 (k := 42) d 42 rfl, this] at k2; cases k2
    have hst2 := hst
    refine yG ?_
    clear main hlast hhead hc hd
    refine LS.loopJ [0, 1, 2, 7, 8] (fun r a L' => ∃ k : Nat, r = s.length + 1 - k ∧ k ≤ s.length + 1 ∧ L' = L ∧ a = [str p, str q, str s, .chan none, .chan none, .chan none, .chan none, .bool (cutTo p q s k), .int .i64 (k : Nat), .chan none, .chan none, .chan none, .chan none, .chan none, .chan none, .chan none, .chan none, .chan none, .chan none, .chan none, .chan none, .chan none, .chan none, .chan none, .chan none, .chan none, .chan none, .chan none, .chan none, .chan none, .chan none, .chan none, .chan none, .chan none, .chan none, .chan none, .chan none, .chan none, .chan none, .chan none, .chan none, .chan none, .chan none, .chan none, .chan none, .chan none, .chan none, .chan none, .chan none, .chan none, .chan none, .chan none, .chan none, .chan none, .chan none, .chan none, .chan none, .chan none, .chan none, .chan none, .chan none, .chan none, .chan none, .chan none, .chan none, .chan none, .chan none, .chan none, .chan none, .chan none, .chan none, .chan none, .chan none, .chan none, .chan none, .chan none, .chan none, .chan none, .chan none, .chan none, .chan none, .chan none, .chan none]) (n := s.length + 1) rfl ⟨0, rfl, by omega, rfl, rfl⟩ ?_
    rintro r a L' ⟨k, rfl, hk, hL, rfl⟩
    rw [hL]
    clear hL
    refine yG ?_
    repeat refine LS.seq ?_
    refine LS.cond rfl (fun hc => ?_) (fun hc => ?_)
    · have hc := ileB_iff.1 hc
      have hsuc := cutTo_succ p q s k
      refine LS.skip ?_
      rcases tf (cutTo p q s k) with v1 | v1
      · rw [v1]
        refine yG ?_
        exact ⟨s.length + 1 - (k + 1), by omega, k + 1, rfl, by omega, rfl, by rw [hsuc, v1]; rfl⟩
      · rw [v1]
        have ht1 : (s.drop 0).take (k - 0) = s.take k := by simp
        have ht2 : (s.drop k).take (s.length - k) = s.drop k := List.take_of_length_le (by rw [List.length_drop]; omega)
        refine yG ?_
        refine OS.pure rfl (e_part (s := s) (l := 0) (u := k) rfl rfl rfl rfl rfl rfl rfl (by omega) (by omega)) rfl ?_
        rw [ht1]
        refine OS.call noGo rfl (fun _ => rfl) ((Match_ct p (s.take k) (by rw [List.length_take]; omega)).mono ?_)
        rintro v' L2 ⟨rfl, hL⟩
        rw [hL]
        clear hL
        rcases tf (mt p (s.take k)) with v2 | v2
        · rw [v2]
          refine yG ?_
          refine OS.pure rfl (e_part (s := s) (l := k) (u := s.length) rfl rfl rfl rfl rfl rfl rfl (by omega) (by omega)) rfl ?_
          rw [ht2]
          refine OS.call noGo rfl (fun _ => rfl) ((Match_ct q (s.drop k) (by rw [List.length_drop]; omega)).mono ?_)
          rintro v' L2 ⟨rfl, hL⟩
          rw [hL]
          clear hL
          refine yG ?_
          exact ⟨s.length + 1 - (k + 1), by omega, k + 1, rfl, by omega, rfl, by rw [hsuc, v1, v2]; rfl⟩
        · rw [v2]
          refine yG ?_
          exact ⟨s.length + 1 - (k + 1), by omega, k + 1, rfl, by omega, rfl, by rw [hsuc, v1, v2]; rfl⟩
    have hc : ¬ (k : Int) ≤ s.length := fun h => by rw [ileB_iff.2 h] at hc; cases hc
    obtain rfl : k = s.length + 1 := by omega
    refine LS.exit ?_
    refine yG ?_
    refine OS.pure rfl (e_cat rfl rfl rfl (by omega)) rfl ?_
    refine yG ?_
    refine OS.call noGo rfl (fun _ => rfl) ((Match_ct (p ++ q) s (by omega)).mono ?_)
    rintro v' L2 ⟨rfl, hL⟩
    rw [hL, hst]
    clear hL
    rcases tf (cutTo p q s (s.length + 1)) with v3 | v3 <;> rw [v3]
    · refine yG ?_
      rfl
    · refine yG ?_
      rfl
  · have hst : mt (p ++ q) s = cutTo p q s (s.length + 1) := main L fun h _ => by
      rw [hlast] at h
      have : c = 42 := by simpa using h
      rw [cmp_u8 (k := 42) c 42 rfl, this] at k1; cases k1
    refine yG ?_
    clear main hlast hhead hc hd
    refine LS.loopJ [0, 1, 2, 7, 8] (fun r a L' => ∃ k : Nat, r = s.length + 1 - k ∧ k ≤ s.length + 1 ∧ L' = L ∧ a = [str p, str q, str s, .chan none, .chan none, .chan none, .chan none, .bool (cutTo p q s k), .int .i64 (k : Nat), .chan none, .chan none, .chan none, .chan none, .chan none, .chan none, .chan none, .chan none, .chan none, .chan none, .chan none, .chan none, .chan none, .chan none, .chan none, .chan none, .chan none, .chan none, .chan none, .chan none, .chan none, .chan none, .chan none, .chan none, .chan none, .chan none, .chan none, .chan none, .chan none, .chan none, .chan none, .chan none, .chan none, .chan none, .chan none, .chan none, .chan none, .chan none, .chan none, .chan none, .chan none, .chan none, .chan none, .chan none, .chan none, .chan none, .chan none, .chan none, .chan none, .chan none, .chan none, .chan none, .chan none, .chan none, .chan none, .chan none, .chan none, .chan none, .chan none, .chan none, .chan none, .chan none, .chan none, .chan none, .chan none, .chan none, .chan none, .chan none, .chan none, .chan none, .chan none, .chan none, .chan none, .chan none]) (n := s.length + 1) rfl ⟨0, rfl, by omega, rfl, rfl⟩ ?_
    rintro r a L' ⟨k, rfl, hk, hL, rfl⟩
    rw [hL]
    clear hL
    refine yG ?_
    repeat refine LS.seq ?_
    refine LS.cond rfl (fun hc => ?_) (fun hc => ?_)
    · have hc := ileB_iff.1 hc
      have hsuc := cutTo_succ p q s k
      refine LS.skip ?_
      rcases tf (cutTo p q s k) with v1 | v1
      · rw [v1]
        refine yG ?_
        exact ⟨s.length + 1 - (k + 1), by omega, k + 1, rfl, by omega, rfl, by rw [hsuc, v1]; rfl⟩
      · rw [v1]
        have ht1 : (s.drop 0).take (k - 0) = s.take k := by simp
        have ht2 : (s.drop k).take (s.length - k) = s.drop k := List.take_of_length_le (by rw [List.length_drop]; omega)
        refine yG ?_
        refine OS.pure rfl (e_part (s := s) (l := 0) (u := k) rfl rfl rfl rfl rfl rfl rfl (by omega) (by omega)) rfl ?_
        rw [ht1]
        refine OS.call noGo rfl (fun _ => rfl) ((Match_ct p (s.take k) (by rw [List.length_take]; omega)).mono ?_)
        rintro v' L2 ⟨rfl, hL⟩
        rw [hL]
        clear hL
        rcases tf (mt p (s.take k)) with v2 | v2
        · rw [v2]
          refine yG ?_
          refine OS.pure rfl (e_part (s := s) (l := k) (u := s.length) rfl rfl rfl rfl rfl rfl rfl (by omega) (by omega)) rfl ?_
          rw [ht2]
          refine OS.call noGo rfl (fun _ => rfl) ((Match_ct q (s.drop k) (by rw [List.length_drop]; omega)).mono ?_)
          rintro v' L2 ⟨rfl, hL⟩
          rw [hL]
          clear hL
          refine yG ?_
          exact ⟨s.length + 1 - (k + 1), by omega, k + 1, rfl, by omega, rfl, by rw [hsuc, v1, v2]; rfl⟩
        · rw [v2]
          refine yG ?_
          exact ⟨s.length + 1 - (k + 1), by omega, k + 1, rfl, by omega, rfl, by rw [hsuc, v1, v2]; rfl⟩
    have hc : ¬ (k : Int) ≤ s.length := fun h => by rw [ileB_iff.2 h] at hc; cases hc
    obtain rfl : k = s.length + 1 := by omega
    refine LS.exit ?_
    refine yG ?_
    refine OS.pure rfl (e_cat rfl rfl rfl (by omega)) rfl ?_
    refine yG ?_
    refine OS.call noGo rfl (fun _ => rfl) ((Match_ct (p ++ q) s (by omega)).mono ?_)
    rintro v' L2 ⟨rfl, hL⟩
    rw [hL, hst]
    clear hL
    rcases tf (cutTo p q s (s.length + 1)) with v3 | v3 <;> rw [v3]
    · refine yG ?_
      rfl
    · refine yG ?_
      rfl
end Go.Proofs.Ytmaneoaliipccaa
