import Derived.Test.YtllcbjaajffaeaaGreatDoorRf
namespace Go.Proofs.YtllcbjaajffaeaaGreatDoor
set_option linter.unusedSimpArgs false
open Go.Am Go.Pd
set_option linter.unusedVariables false
set_option maxRecDepth 20000
set_option maxHeartbeats 4000000
attribute [local irreducible] OS LSr ODS CS YS
section
variable {L : RL}
theorem small_ct (c : UInt8) : CS Tryz.prog 103 [.int .u8 (c.toNat : Nat)] L fun v L' => v = .bool (Go.Pd.lowB c) ∧ L' = L := by
  have e : Go.Pd.lowB c = (ileB 97 (c.toNat : Nat) && ileB (c.toNat : Nat) 122) := by rw [u8_le (k := 97) 97 rfl, u8_ge (k := 122) 122 rfl]; rfl
  rw [e]
  refine CS.mk (fn := Tryz.f103) rfl rfl rfl rfl ?_
  rcases tf (ileB 97 (c.toNat : Nat)) with h1 | h1 <;> rcases tf (ileB (c.toNat : Nat) 122) with h2 | h2 <;> rw [h1, h2]
  all_goals
    refine yG ?_
    exact ⟨rfl, rfl⟩
theorem digit_ct (c : UInt8) : CS Tryz.prog 104 [.int .u8 (c.toNat : Nat)] L fun v L' => v = .bool (Go.Pd.digB c) ∧ L' = L := by
  have e : Go.Pd.digB c = (ileB 48 (c.toNat : Nat) && ileB (c.toNat : Nat) 57) := by rw [u8_le (k := 48) 48 rfl, u8_ge (k := 57) 57 rfl]; rfl
  rw [e]
  refine CS.mk (fn := Tryz.f104) rfl rfl rfl rfl ?_
  rcases tf (ileB 48 (c.toNat : Nat)) with h1 | h1 <;> rcases tf (ileB (c.toNat : Nat) 57) with h2 | h2 <;> rw [h1, h2]
  all_goals
    refine yG ?_
    exact ⟨rfl, rfl⟩
theorem take_all {p : UInt8 → Bool} {s : List UInt8} {j : Nat} {b : UInt8} (hb : s[j]? = some b) (h : (s.take j).all p = true) (hp : p b = true) : (s.take (j + 1)).all p = true := by
  rw [Go.Pd.take_one hb, List.all_append, h]; simp [hp]
theorem not_all {p : UInt8 → Bool} {s : List UInt8} {j : Nat} {b : UInt8} (hb : s[j]? = some b) (hp : p b = false) : s.all p = false := by
  rw [Bool.eq_false_iff]
  intro hh
  have := List.all_eq_true.1 hh b (List.mem_of_getElem? hb)
  rw [hp] at this; cases this
theorem refName_ct (s : List UInt8) (hs : s.length ≤ 9000000000000000) : CS Tryz.prog 74 [str s] L fun v L' => v = .bool (Go.Pd.nameB s) ∧ L' = L := by
  rw [nameB_eq]
  refine CS.mk (fn := Tryz.f74) rfl rfl rfl rfl ?_
  cases s with
  | nil =>
    refine yG ?_
    exact ⟨rfl, rfl⟩
  | cons c t =>
    have hb : bytesEq (c :: t) [] = false := rfl
    by_cases hl : (c :: t).length ≤ 24
    · have hb2 : (!ileB (((c :: t).length : Nat) : Int) 24) = false := by rw [ileB_eq]; simp at hl ⊢; omega
      refine yG ?_
      refine OS.pure rfl (e_byte (j := 0) rfl rfl rfl rfl rfl) rfl ?_
      refine OS.call noGo rfl (fun _ => rfl) ((small_ct c).mono ?_)
      rintro v L' ⟨rfl, hL⟩
      rw [hL]
      clear hL
      refine ⟨_, rfl, ?_⟩
      rcases tf (Go.Pd.lowB c) with h | h
      rotate_left
      · rw [h]
        refine yG ?_
        rw [decide_eq_true hl]
        refine ⟨congrArg Value.bool ?_, rfl⟩
        simp [h]
      rw [h]
      refine yG ?_
      generalize hse : c :: t = s at *
      refine LS.loopJ [0, 3] (fun q a L' => ∃ j : Nat, q = s.length - j ∧ j ≤ s.length ∧ (s.take j).all ofName = true ∧ L' = L ∧ a = [str s, .chan none, .chan none, .int .i64 (j : Nat), .chan none, .chan none, .chan none, .chan none, .chan none, .chan none, .chan none, .chan none, .chan none, .chan none, .chan none, .chan none, .chan none, .chan none, .chan none, .chan none, .chan none, .chan none, .chan none, .chan none, .chan none, .chan none, .chan none, .chan none, .chan none, .chan none, .chan none, .chan none, .chan none, .chan none, .chan none, .chan none, .chan none, .chan none, .chan none, .chan none, .chan none, .chan none, .chan none, .chan none, .chan none, .chan none, .chan none]) (n := s.length) rfl ⟨0, rfl, by omega, rfl, rfl, rfl⟩ ?_
      rintro q a L' ⟨j, rfl, hj, ht, rfl, rfl⟩
      by_cases hjn : j < s.length
      · have hb : (!ileB ((s.length : Nat) : Int) (j : Nat)) = true := by rw [ileB_eq]; simp; omega
        have hbj : s[j]? = some s[j] := List.getElem?_eq_getElem hjn
        generalize s[j] = b at hbj
        have e : ofName b = (Go.Pd.lowB b || (Go.Pd.digB b || (ieqB (b.toNat : Nat) 45 || ieqB (b.toNat : Nat) 95))) := by rw [cmp_u8 (k := 45) b 45 rfl, cmp_u8 (k := 95) b 95 rfl]; rfl
        refine yG ?_
        refine OS.call noGo rfl (fun _ => rfl) ((small_ct b).mono ?_)
        rintro v L' ⟨rfl, hL⟩
        rw [hL]
        clear hL
        refine ⟨_, rfl, ?_⟩
        rcases tf (Go.Pd.lowB b) with h1 | h1
        · rw [h1]
          refine yG ?_
          exact ⟨s.length - (j + 1), by omega, j + 1, rfl, by omega, take_all hbj ht (by rw [e, h1]; rfl), rfl, rfl⟩
        rw [h1]
        refine yG ?_
        refine OS.call noGo rfl (fun _ => rfl) ((digit_ct b).mono ?_)
        rintro v L' ⟨rfl, hL⟩
        rw [hL]
        clear hL
        refine ⟨_, rfl, ?_⟩
        rcases tf (Go.Pd.digB b) with h2 | h2
        · rw [h2]
          refine yG ?_
          exact ⟨s.length - (j + 1), by omega, j + 1, rfl, by omega, take_all hbj ht (by rw [e, h1, h2]; rfl), rfl, rfl⟩
        rw [h2]
        rcases tf (ieqB (b.toNat : Nat) 45) with h3 | h3
        · have h3' : (!ieqB (b.toNat : Nat) 45) = false := by rw [h3]; rfl
          refine yG ?_
          exact ⟨s.length - (j + 1), by omega, j + 1, rfl, by omega, take_all hbj ht (by rw [e, h1, h2, h3]; rfl), rfl, rfl⟩
        have h3' : (!ieqB (b.toNat : Nat) 45) = true := by rw [h3]; rfl
        rcases tf (ieqB (b.toNat : Nat) 95) with h4 | h4
        · have h4' : (!ieqB (b.toNat : Nat) 95) = false := by rw [h4]; rfl
          refine yG ?_
          exact ⟨s.length - (j + 1), by omega, j + 1, rfl, by omega, take_all hbj ht (by rw [e, h1, h2, h3, h4]; rfl), rfl, rfl⟩
        have h4' : (!ieqB (b.toNat : Nat) 95) = true := by rw [h4]; rfl
        refine yG ?_
        rw [not_all hbj (by rw [e, h1, h2, h3, h4]; rfl)]
        simp only [Bool.and_false]
        exact ⟨rfl, trivial⟩
      · have hb : (!ileB ((s.length : Nat) : Int) (j : Nat)) = false := by rw [ileB_eq]; simp; omega
        refine yG ?_
        refine LS.exit ?_
        refine yG ?_
        rw [List.take_of_length_le (by omega)] at ht
        rw [decide_eq_true hl, ht, ← hse]
        refine ⟨congrArg Value.bool ?_, rfl⟩
        simp [h]
    · have hb2 : (!ileB (((c :: t).length : Nat) : Int) 24) = true := by rw [ileB_eq]; simp at hl ⊢; omega
      refine yG ?_
      rw [decide_eq_false hl]
      exact ⟨rfl, rfl⟩
theorem refWord_ct (s : List UInt8) (hs : s.length ≤ 1000000000000) : CS Tryz.prog 107 [str s] L fun v L' => v = .bool (Go.Pd.wordB s) ∧ L' = L := by
  unfold Go.Pd.wordB
  generalize hp : (fun c : UInt8 => decide (33 ≤ c.toNat) && decide (c.toNat ≤ 126)) = p
  have hpe : ∀ c : UInt8, p c = (ileB 33 (c.toNat : Nat) && ileB (c.toNat : Nat) 126) := fun c => by rw [u8_le (k := 33) 33 rfl, u8_ge (k := 126) 126 rfl, ← hp]
  refine CS.mk (fn := Tryz.f107) rfl rfl rfl rfl ?_
  cases s with
  | nil =>
    refine yG ?_
    exact ⟨rfl, rfl⟩
  | cons c t =>
    have hb : bytesEq (c :: t) [] = false := rfl
    by_cases hl : (c :: t).length ≤ 64
    · have hb2 : (!ileB (((c :: t).length : Nat) : Int) 64) = false := by rw [ileB_eq]; simp at hl ⊢; omega
      refine yG ?_
      generalize hse : c :: t = s at *
      have hne : s ≠ [] := by rw [← hse]; simp
      rw [decide_eq_true hl, decide_eq_true hne]
      refine LS.loopJ [0, 3] (fun q a L' => ∃ j : Nat, q = s.length - j ∧ j ≤ s.length ∧ (s.take j).all p = true ∧ L' = L ∧ a = [str s, .chan none, .chan none, .int .i64 (j : Nat), .chan none, .chan none, .chan none, .chan none, .chan none, .chan none, .chan none, .chan none, .chan none, .chan none, .chan none, .chan none, .chan none, .chan none, .chan none, .chan none, .chan none, .chan none, .chan none, .chan none, .chan none, .chan none, .chan none]) (n := s.length) rfl ⟨0, rfl, by omega, rfl, rfl, rfl⟩ ?_
      rintro q a L' ⟨j, rfl, hj, ht, rfl, rfl⟩
      by_cases hjn : j < s.length
      · have hb : (!ileB ((s.length : Nat) : Int) (j : Nat)) = true := by rw [ileB_eq]; simp; omega
        have hbj : s[j]? = some s[j] := List.getElem?_eq_getElem hjn
        generalize s[j] = b at hbj
        have e := hpe b
        rcases tf (ileB 33 (b.toNat : Nat)) with h1 | h1
        rotate_left
        · have h1' : (!ileB 33 (b.toNat : Nat)) = true := by rw [h1]; rfl
          refine yG ?_
          rw [not_all hbj (by rw [e, h1]; rfl)]
          exact ⟨rfl, rfl⟩
        have h1' : (!ileB 33 (b.toNat : Nat)) = false := by rw [h1]; rfl
        rcases tf (ileB (b.toNat : Nat) 126) with h2 | h2
        rotate_left
        · have h2' : (!ileB (b.toNat : Nat) 126) = true := by rw [h2]; rfl
          refine yG ?_
          rw [not_all hbj (by rw [e, h1, h2]; rfl)]
          exact ⟨rfl, rfl⟩
        have h2' : (!ileB (b.toNat : Nat) 126) = false := by rw [h2]; rfl
        refine yG ?_
        exact ⟨s.length - (j + 1), by omega, j + 1, rfl, by omega, take_all hbj ht (by rw [e, h1, h2]; rfl), rfl, rfl⟩
      · have hb : (!ileB ((s.length : Nat) : Int) (j : Nat)) = false := by rw [ileB_eq]; simp; omega
        refine yG ?_
        refine LS.exit ?_
        refine yG ?_
        rw [List.take_of_length_le (by omega)] at ht
        rw [ht]
        exact ⟨rfl, rfl⟩
    · have hb2 : (!ileB (((c :: t).length : Nat) : Int) 64) = true := by rw [ileB_eq]; simp at hl ⊢; omega
      refine yG ?_
      rw [decide_eq_false hl]
      exact ⟨by simp <;> rfl, rfl⟩
theorem numV_snoc (s : List UInt8) (c : UInt8) : Go.Pd.numV (s ++ [c]) = 10 * Go.Pd.numV s + (c.toNat - 48) := by simp [Go.Pd.numV]
theorem refNumber_ct (s : List UInt8) (hs : s.length ≤ 1000000000000) : CS Tryz.prog 108 [str s] L fun v L' => v = .int .i64 (Go.Pd.numN s : Nat) ∧ L' = L := by
  unfold Go.Pd.numN
  refine CS.mk (fn := Tryz.f108) rfl rfl rfl rfl ?_
  cases s with
  | nil =>
    refine yG ?_
    exact ⟨rfl, rfl⟩
  | cons c t =>
    have hb : bytesEq (c :: t) [] = false := rfl
    by_cases hc : c = 48
    · subst hc
      have hb0 : ieqB ((48 : UInt8).toNat : Nat) 48 = true := rfl
      refine yG ?_
      refine OS.pure rfl (e_byte (j := 0) rfl rfl rfl rfl rfl) rfl ?_
      refine yG ?_
      exact ⟨rfl, rfl⟩
    have hc0 : ieqB (c.toNat : Nat) 48 = false := by rw [cmp_u8 (k := 48) c 48 rfl]; simpa using hc
    by_cases hl : (c :: t).length ≤ 6
    rotate_left
    · have hb2 : (!ileB (((c :: t).length : Nat) : Int) 6) = true := by rw [ileB_eq]; simp at hl ⊢; omega
      refine yG ?_
      refine OS.pure rfl (e_byte (j := 0) rfl rfl rfl rfl rfl) rfl ?_
      refine yG ?_
      rw [if_pos (.inr (.inr (by omega)))]
      exact ⟨rfl, rfl⟩
    have hb2 : (!ileB (((c :: t).length : Nat) : Int) 6) = false := by rw [ileB_eq]; simp at hl ⊢; omega
    rw [if_neg (by rintro (h | h | h); cases h; exact hc (by simpa using h); omega)]
    refine yG ?_
    refine OS.pure rfl (e_byte (j := 0) rfl rfl rfl rfl rfl) rfl ?_
    refine yG ?_
    generalize hse : c :: t = s at *
    refine LS.loopJ [0, 3, 4] (fun q a L' => ∃ j : Nat, q = s.length - j ∧ j ≤ s.length ∧ (s.take j).all digB = true ∧ numV (s.take j) < 10 ^ j ∧ L' = L ∧ a = [str s, .chan none, .chan none, .int .i64 (numV (s.take j) : Nat), .int .i64 (j : Nat), .chan none, .chan none, .chan none, .chan none, .chan none, .chan none, .chan none, .chan none, .chan none, .chan none, .chan none, .chan none, .chan none, .chan none, .chan none, .chan none, .chan none, .chan none, .chan none, .chan none, .chan none, .chan none, .chan none, .chan none, .chan none, .chan none, .chan none, .chan none, .chan none, .chan none, .chan none, .chan none]) (n := s.length) rfl ⟨0, rfl, by omega, rfl, by simp [numV], rfl, rfl⟩ ?_
    rintro q a L' ⟨j, rfl, hj, ht, hv, rfl, rfl⟩
    by_cases hjn : j < s.length
    · have hb : (!ileB ((s.length : Nat) : Int) (j : Nat)) = true := by rw [ileB_eq]; simp; omega
      have hbj : s[j]? = some s[j] := List.getElem?_eq_getElem hjn
      generalize s[j] = b at hbj
      have hv6 : numV (s.take j) ≤ 1000000 := by
        have : (10 : Nat) ^ j ≤ 10 ^ 6 := Nat.pow_le_pow_right (by decide) (by omega)
        omega
      have hblt := b.toNat_lt
      refine yG ?_
      refine OS.call noGo rfl (fun _ => rfl) ((digit_ct b).mono ?_)
      rintro v L' ⟨rfl, hL⟩
      rw [hL]
      clear hL
      refine ⟨_, rfl, ?_⟩
      rcases tf (Go.Pd.digB b) with h2 | h2
      rotate_left
      · rw [h2]
        refine yG ?_
        rw [not_all hbj h2]
        exact ⟨rfl, rfl⟩
      have h48 : 48 ≤ b.toNat ∧ b.toNat ≤ 57 := by simpa [digB] using h2
      rw [h2]
      refine yG ?_
      have hnv : ((numV (s.take (j + 1)) : Nat) : Int) = 10 * ((numV (s.take j) : Nat) : Int) + ((b.toNat : Nat) : Int) - 48 := by
        rw [Go.Pd.take_one hbj, numV_snoc]; omega
      refine OS.pure rfl (e_mul rfl rfl rfl (in_i64 (by omega) (by omega))) rfl ?_
      refine yG ?_
      refine OS.pure rfl (e_conv rfl rfl rfl rfl (in_i64 (by omega) (by omega))) rfl ?_
      refine OS.pure rfl (e_add rfl rfl rfl (in_i64 (by omega) (by omega))) rfl ?_
      refine OS.pure rfl (e_sub rfl rfl rfl (in_i64 (by omega) (by omega))) rfl ?_
      refine yG ?_
      refine ⟨s.length - (j + 1), by omega, j + 1, rfl, by omega, take_all hbj ht h2, ?_, rfl, ?_⟩
      · rw [Go.Pd.take_one hbj, numV_snoc, Nat.pow_succ]; omega
      · rw [hnv]; rfl
    · have hb : (!ileB ((s.length : Nat) : Int) (j : Nat)) = false := by rw [ileB_eq]; simp; omega
      refine yG ?_
      refine LS.exit ?_
      refine yG ?_
      rw [List.take_of_length_le (by omega)] at ht ⊢
      rw [if_pos ht]
      exact ⟨rfl, rfl⟩
end
end Go.Proofs.YtllcbjaajffaeaaGreatDoor
namespace Go.Pd
set_option linter.unusedSimpArgs false
def okc (c : UInt8) : Bool := lowB c || (upB c || (digB c || (c == 45 || (c == 95 || c == 46))))
def pth (p : B) : B → Bool
  | [] => partB p
  | c :: t => if c = 47 then partB p && pth [] t else okc c && pth (p ++ [c]) t
def pre (p : B) : List B → List B
  | h :: r => (p ++ h) :: r
  | [] => [p]
theorem parts_ne : ∀ s : B, parts s ≠ []
  | [] => by simp [parts]
  | c :: t => by
    unfold parts
    split
    · simp
    · split <;> simp
theorem pth_eq : ∀ (s p : B), pth p s = ((pre p (parts s)).all partB && s.all fun c => c == 47 || okc c)
  | [], p => by simp [pth, parts, pre]
  | c :: t, p => by
    unfold pth parts
    by_cases h : c = 47
    · rw [if_pos h, if_pos h, pth_eq t []]
      cases hp : parts t with
      | nil => exact absurd hp (parts_ne t)
      | cons x r => simp [pre, h, Bool.and_assoc]
    · rw [if_neg h, if_neg h, pth_eq t (p ++ [c])]
      have hb : (c == 47) = false := by simpa using h
      cases hp : parts t with
      | nil => exact absurd hp (parts_ne t)
      | cons x r =>
        simp only [pre, List.all_cons, hb, Bool.false_or, List.append_assoc, List.cons_append, List.nil_append]
        cases okc c <;> cases partB (p ++ c :: x) <;> cases r.all partB <;> cases t.all (fun c => c == 47 || okc c) <;> rfl
theorem path_pth (s : B) : pathB s = (decide (s.length ≤ 48) && pth [] s) := by
  rw [pth_eq]
  unfold pathB
  cases hp : parts s with
  | nil => exact absurd hp (parts_ne s)
  | cons x r => rfl
end Go.Pd
namespace Go.Proofs.YtllcbjaajffaeaaGreatDoor
set_option linter.unusedSimpArgs false
open Go.Am Go.Pd
set_option linter.unusedVariables false
set_option maxRecDepth 20000
set_option maxHeartbeats 4000000
attribute [local irreducible] OS LSr ODS CS YS
section
variable {L : RL}
theorem refPath_ct (s : List UInt8) (hs : s.length ≤ 9000000000000000) : CS Tryz.prog 105 [str s] L fun v L' => v = .bool (Go.Pd.pathB s) ∧ L' = L := by
  rw [path_pth]
  refine CS.mk (fn := Tryz.f105) rfl rfl rfl rfl ?_
  by_cases hl : s.length ≤ 48
  rotate_left
  · have hb2 : (!ileB ((s.length : Nat) : Int) 48) = true := by rw [ileB_eq]; simp; omega
    refine yG ?_
    rw [decide_eq_false hl]
    exact ⟨rfl, rfl⟩
  have hb2 : (!ileB ((s.length : Nat) : Int) 48) = false := by rw [ileB_eq]; simp; omega
  rw [decide_eq_true hl, Bool.true_and]
  refine yG ?_
  refine LS.loopJ [0, 3, 4] (fun q a L' => ∃ (i : Nat) (p : List UInt8), q = s.length + 1 - i ∧ p.length ≤ i ∧ ((i ≤ s.length ∧ pth [] s = pth p (s.drop i)) ∨ (i = s.length + 1 ∧ pth [] s = true)) ∧ L' = L ∧ a = [str s, .chan none, .chan none, str p, .int .i64 (i : Nat), .chan none, .chan none, .chan none, .chan none, .chan none, .chan none, .chan none, .chan none, .chan none, .chan none, .chan none, .chan none, .chan none, .chan none, .chan none, .chan none, .chan none, .chan none, .chan none, .chan none, .chan none, .chan none, .chan none, .chan none, .chan none, .chan none, .chan none, .chan none, .chan none, .chan none, .chan none, .chan none, .chan none, .chan none, .chan none, .chan none, .chan none, .chan none, .chan none, .chan none, .chan none, .chan none, .chan none, .chan none, .chan none, .chan none, .chan none, .chan none, .chan none, .chan none, .chan none, .chan none, .chan none, .chan none, .chan none, .chan none, .chan none, .chan none, .chan none, .chan none, .chan none, .chan none, .chan none, .chan none, .chan none, .chan none, .chan none, .chan none, .chan none]) (n := s.length + 1) rfl ⟨0, [], rfl, by simp, .inl ⟨by omega, rfl⟩, rfl, rfl⟩ ?_
  rintro q a L' ⟨i, p, rfl, hpl, hcase, rfl, rfl⟩
  rcases hcase with ⟨hi, hE⟩ | ⟨rfl, hE⟩
  rotate_left
  · have hb : ileB ((s.length + 1 : Nat) : Int) (s.length : Nat) = false := by rw [ileB_eq]; simp; omega
    refine yG ?_
    refine LS.exit ?_
    refine yG ?_
    rw [hE]
    exact ⟨rfl, rfl⟩
  have hb : ileB ((i : Nat) : Int) (s.length : Nat) = true := by rw [ileB_eq]; simp; omega
  have hpart : partB p = !(bytesEq p [] || (bytesEq p [46] || bytesEq p [46, 46])) := by rw [beq_bytes, beq_bytes, beq_bytes]; rfl
  have hend : partB p = false → pth [] s = false ∨ True := fun _ => .inr trivial
  by_cases hin : i = s.length
  · subst hin
    have hbe : ieqB ((s.length : Nat) : Int) (s.length : Nat) = true := by rw [ieqB_eq]; simp
    rw [List.drop_length, pth] at hE
    rcases tf (bytesEq p []) with h1 | h1
    · refine yG ?_
      rw [hE, hpart, h1]
      exact ⟨rfl, rfl⟩
    rcases tf (bytesEq p [46]) with h2 | h2
    · refine yG ?_
      rw [hE, hpart, h1, h2]
      exact ⟨rfl, rfl⟩
    rcases tf (bytesEq p [46, 46]) with h3 | h3
    · refine yG ?_
      rw [hE, hpart, h1, h2, h3]
      exact ⟨rfl, rfl⟩
    refine yG ?_
    show LSr _ _ _ _ _ _
    refine LS.exit ?_
    refine yG ?_
    exact ⟨0, by omega, s.length + 1, [], by omega, by simp, .inr ⟨rfl, by rw [hE, hpart, h1, h2, h3]; rfl⟩, rfl, rfl⟩
  have hin2 : i < s.length := by omega
  have hbe : ieqB ((i : Nat) : Int) (s.length : Nat) = false := by rw [ieqB_eq]; simp; omega
  have hbj : s[i]? = some s[i] := List.getElem?_eq_getElem hin2
  have hdrop : s.drop i = s[i] :: s.drop (i + 1) := List.drop_eq_getElem_cons hin2
  generalize s[i] = b at hbj hdrop
  rw [hdrop, pth] at hE
  have e47 := cmp_u8 (k := 47) b 47 rfl
  by_cases h47 : b = 47
  · have hb47 : ieqB (b.toNat : Nat) 47 = true := by rw [e47]; simpa using h47
    rw [if_pos h47] at hE
    rcases tf (bytesEq p []) with h1 | h1
    · refine yG ?_
      rw [hE, hpart, h1]
      exact ⟨rfl, rfl⟩
    rcases tf (bytesEq p [46]) with h2 | h2
    · refine yG ?_
      rw [hE, hpart, h1, h2]
      exact ⟨rfl, rfl⟩
    rcases tf (bytesEq p [46, 46]) with h3 | h3
    · refine yG ?_
      rw [hE, hpart, h1, h2, h3]
      exact ⟨rfl, rfl⟩
    refine yG ?_
    show LSr _ _ _ _ _ _
    refine LS.exit ?_
    refine yG ?_
    exact ⟨s.length + 1 - (i + 1), by omega, i + 1, [], rfl, by simp, .inl ⟨by omega, by rw [hE, hpart, h1, h2, h3]; rfl⟩, rfl, rfl⟩
  have hb47 : ieqB (b.toNat : Nat) 47 = false := by rw [e47]; simpa using h47
  rw [if_neg h47] at hE
  have e : okc b = (Go.Pd.lowB b || ((ileB 65 (b.toNat : Nat) && ileB (b.toNat : Nat) 90) || (Go.Pd.digB b || (ieqB (b.toNat : Nat) 45 || (ieqB (b.toNat : Nat) 95 || ieqB (b.toNat : Nat) 46))))) := by
    rw [u8_le (k := 65) 65 rfl, u8_ge (k := 90) 90 rfl, cmp_u8 (k := 45) b 45 rfl, cmp_u8 (k := 95) b 95 rfl, cmp_u8 (k := 46) b 46 rfl]; rfl
  refine yG ?_
  refine OS.call noGo rfl (fun _ => rfl) ((small_ct b).mono ?_)
  rintro v L' ⟨rfl, hL⟩
  rw [hL]
  clear hL
  refine ⟨_, rfl, ?_⟩
  rcases tf (Go.Pd.lowB b) with h1 | h1
  · rw [h1]
    refine yG ?_
    refine OS.pure rfl (e_part (s := s) (l := i) (u := i + 1) rfl rfl rfl rfl (bound_nat (d := 0)) (bound_nat (d := s.length)) rfl (by omega) (by omega)) rfl ?_
    rw [show (s.drop i).take (i + 1 - i) = [b] by rw [hdrop, show i + 1 - i = 1 by omega]; rfl]
    refine OS.pure rfl (e_cat rfl rfl rfl (by simp; omega)) rfl ?_
    refine yG ?_
    exact ⟨s.length + 1 - (i + 1), by omega, i + 1, p ++ [b], rfl, by simp; omega, .inl ⟨by omega, by rw [hE, e, h1]; rfl⟩, rfl, rfl⟩
  rw [h1]
  rcases tf (ileB 65 (b.toNat : Nat)) with h2 | h2
  rotate_left
  · clear hb2
    refine yG ?_
    refine OS.call noGo rfl (fun _ => rfl) ((digit_ct b).mono ?_)
    rintro v L' ⟨rfl, hL⟩
    rw [hL]
    clear hL
    refine ⟨_, rfl, ?_⟩
    rcases tf (Go.Pd.digB b) with h4 | h4
    · rw [h4]
      refine yG ?_
      refine OS.pure rfl (e_part (s := s) (l := i) (u := i + 1) rfl rfl rfl rfl (bound_nat (d := 0)) (bound_nat (d := s.length)) rfl (by omega) (by omega)) rfl ?_
      rw [show (s.drop i).take (i + 1 - i) = [b] by rw [hdrop, show i + 1 - i = 1 by omega]; rfl]
      refine OS.pure rfl (e_cat rfl rfl rfl (by simp; omega)) rfl ?_
      refine yG ?_
      exact ⟨s.length + 1 - (i + 1), by omega, i + 1, p ++ [b], rfl, by simp; omega, .inl ⟨by omega, by rw [hE, e, h1, h2, h4]; rfl⟩, rfl, rfl⟩
    rw [h4]
    rcases tf (ieqB (b.toNat : Nat) 45) with h5 | h5
    · have h5' : (!ieqB (b.toNat : Nat) 45) = false := by rw [h5]; rfl
      refine yG ?_
      refine OS.pure rfl (e_part (s := s) (l := i) (u := i + 1) rfl rfl rfl rfl (bound_nat (d := 0)) (bound_nat (d := s.length)) rfl (by omega) (by omega)) rfl ?_
      rw [show (s.drop i).take (i + 1 - i) = [b] by rw [hdrop, show i + 1 - i = 1 by omega]; rfl]
      refine OS.pure rfl (e_cat rfl rfl rfl (by simp; omega)) rfl ?_
      refine yG ?_
      exact ⟨s.length + 1 - (i + 1), by omega, i + 1, p ++ [b], rfl, by simp; omega, .inl ⟨by omega, by rw [hE, e, h1, h2, h4, h5]; rfl⟩, rfl, rfl⟩
    have h5' : (!ieqB (b.toNat : Nat) 45) = true := by rw [h5]; rfl
    rcases tf (ieqB (b.toNat : Nat) 95) with h6 | h6
    · have h6' : (!ieqB (b.toNat : Nat) 95) = false := by rw [h6]; rfl
      refine yG ?_
      refine OS.pure rfl (e_part (s := s) (l := i) (u := i + 1) rfl rfl rfl rfl (bound_nat (d := 0)) (bound_nat (d := s.length)) rfl (by omega) (by omega)) rfl ?_
      rw [show (s.drop i).take (i + 1 - i) = [b] by rw [hdrop, show i + 1 - i = 1 by omega]; rfl]
      refine OS.pure rfl (e_cat rfl rfl rfl (by simp; omega)) rfl ?_
      refine yG ?_
      exact ⟨s.length + 1 - (i + 1), by omega, i + 1, p ++ [b], rfl, by simp; omega, .inl ⟨by omega, by rw [hE, e, h1, h2, h4, h5, h6]; rfl⟩, rfl, rfl⟩
    have h6' : (!ieqB (b.toNat : Nat) 95) = true := by rw [h6]; rfl
    rcases tf (ieqB (b.toNat : Nat) 46) with h7 | h7
    · have h7' : (!ieqB (b.toNat : Nat) 46) = false := by rw [h7]; rfl
      refine yG ?_
      refine OS.pure rfl (e_part (s := s) (l := i) (u := i + 1) rfl rfl rfl rfl (bound_nat (d := 0)) (bound_nat (d := s.length)) rfl (by omega) (by omega)) rfl ?_
      rw [show (s.drop i).take (i + 1 - i) = [b] by rw [hdrop, show i + 1 - i = 1 by omega]; rfl]
      refine OS.pure rfl (e_cat rfl rfl rfl (by simp; omega)) rfl ?_
      refine yG ?_
      exact ⟨s.length + 1 - (i + 1), by omega, i + 1, p ++ [b], rfl, by simp; omega, .inl ⟨by omega, by rw [hE, e, h1, h2, h4, h5, h6, h7]; rfl⟩, rfl, rfl⟩
    have h7' : (!ieqB (b.toNat : Nat) 46) = true := by rw [h7]; rfl
    refine yG ?_
    rw [hE, e, h1, h2, h4, h5, h6, h7]
    exact ⟨rfl, rfl⟩
  rcases tf (ileB (b.toNat : Nat) 90) with h3 | h3
  rotate_left
  · clear hb2
    refine yG ?_
    refine OS.call noGo rfl (fun _ => rfl) ((digit_ct b).mono ?_)
    rintro v L' ⟨rfl, hL⟩
    rw [hL]
    clear hL
    refine ⟨_, rfl, ?_⟩
    rcases tf (Go.Pd.digB b) with h4 | h4
    · rw [h4]
      refine yG ?_
      refine OS.pure rfl (e_part (s := s) (l := i) (u := i + 1) rfl rfl rfl rfl (bound_nat (d := 0)) (bound_nat (d := s.length)) rfl (by omega) (by omega)) rfl ?_
      rw [show (s.drop i).take (i + 1 - i) = [b] by rw [hdrop, show i + 1 - i = 1 by omega]; rfl]
      refine OS.pure rfl (e_cat rfl rfl rfl (by simp; omega)) rfl ?_
      refine yG ?_
      exact ⟨s.length + 1 - (i + 1), by omega, i + 1, p ++ [b], rfl, by simp; omega, .inl ⟨by omega, by rw [hE, e, h1, h2, h3, h4]; rfl⟩, rfl, rfl⟩
    rw [h4]
    rcases tf (ieqB (b.toNat : Nat) 45) with h5 | h5
    · have h5' : (!ieqB (b.toNat : Nat) 45) = false := by rw [h5]; rfl
      refine yG ?_
      refine OS.pure rfl (e_part (s := s) (l := i) (u := i + 1) rfl rfl rfl rfl (bound_nat (d := 0)) (bound_nat (d := s.length)) rfl (by omega) (by omega)) rfl ?_
      rw [show (s.drop i).take (i + 1 - i) = [b] by rw [hdrop, show i + 1 - i = 1 by omega]; rfl]
      refine OS.pure rfl (e_cat rfl rfl rfl (by simp; omega)) rfl ?_
      refine yG ?_
      exact ⟨s.length + 1 - (i + 1), by omega, i + 1, p ++ [b], rfl, by simp; omega, .inl ⟨by omega, by rw [hE, e, h1, h2, h3, h4, h5]; rfl⟩, rfl, rfl⟩
    have h5' : (!ieqB (b.toNat : Nat) 45) = true := by rw [h5]; rfl
    rcases tf (ieqB (b.toNat : Nat) 95) with h6 | h6
    · have h6' : (!ieqB (b.toNat : Nat) 95) = false := by rw [h6]; rfl
      refine yG ?_
      refine OS.pure rfl (e_part (s := s) (l := i) (u := i + 1) rfl rfl rfl rfl (bound_nat (d := 0)) (bound_nat (d := s.length)) rfl (by omega) (by omega)) rfl ?_
      rw [show (s.drop i).take (i + 1 - i) = [b] by rw [hdrop, show i + 1 - i = 1 by omega]; rfl]
      refine OS.pure rfl (e_cat rfl rfl rfl (by simp; omega)) rfl ?_
      refine yG ?_
      exact ⟨s.length + 1 - (i + 1), by omega, i + 1, p ++ [b], rfl, by simp; omega, .inl ⟨by omega, by rw [hE, e, h1, h2, h3, h4, h5, h6]; rfl⟩, rfl, rfl⟩
    have h6' : (!ieqB (b.toNat : Nat) 95) = true := by rw [h6]; rfl
    rcases tf (ieqB (b.toNat : Nat) 46) with h7 | h7
    · have h7' : (!ieqB (b.toNat : Nat) 46) = false := by rw [h7]; rfl
      refine yG ?_
      refine OS.pure rfl (e_part (s := s) (l := i) (u := i + 1) rfl rfl rfl rfl (bound_nat (d := 0)) (bound_nat (d := s.length)) rfl (by omega) (by omega)) rfl ?_
      rw [show (s.drop i).take (i + 1 - i) = [b] by rw [hdrop, show i + 1 - i = 1 by omega]; rfl]
      refine OS.pure rfl (e_cat rfl rfl rfl (by simp; omega)) rfl ?_
      refine yG ?_
      exact ⟨s.length + 1 - (i + 1), by omega, i + 1, p ++ [b], rfl, by simp; omega, .inl ⟨by omega, by rw [hE, e, h1, h2, h3, h4, h5, h6, h7]; rfl⟩, rfl, rfl⟩
    have h7' : (!ieqB (b.toNat : Nat) 46) = true := by rw [h7]; rfl
    refine yG ?_
    rw [hE, e, h1, h2, h3, h4, h5, h6, h7]
    exact ⟨rfl, rfl⟩
  refine yG ?_
  refine OS.pure rfl (e_part (s := s) (l := i) (u := i + 1) rfl rfl rfl rfl (bound_nat (d := 0)) (bound_nat (d := s.length)) rfl (by omega) (by omega)) rfl ?_
  rw [show (s.drop i).take (i + 1 - i) = [b] by rw [hdrop, show i + 1 - i = 1 by omega]; rfl]
  refine OS.pure rfl (e_cat rfl rfl rfl (by simp; omega)) rfl ?_
  refine yG ?_
  exact ⟨s.length + 1 - (i + 1), by omega, i + 1, p ++ [b], rfl, by simp; omega, .inl ⟨by omega, by rw [hE, e, h1, h2, h3]; rfl⟩, rfl, rfl⟩
end
end Go.Proofs.YtllcbjaajffaeaaGreatDoor
