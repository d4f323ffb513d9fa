/- Texts Ry Rz DwW OpenG OpenH OpenJ in one. -/
import Derived.Test.YtfmgoagkjjmefaaGreatDoorRtM
import Derived.Handed
import Derived.LaidHandle
import Derived.LaidMore
import Derived.Test.YtfmgoagkjjmefaaGreatDoorRows
import Derived.LaidLaws
import Derived.Lib.LaidU8
/- Layer 12, the document's words: small, digit, Name, word, number. -/
namespace Go.Proofs.YtfmgoagkjjmefaaGreatDoor
open Go.Am Go.Pd
set_option linter.unusedVariables false
set_option maxRecDepth 20000
set_option maxHeartbeats 4000000
attribute [local irreducible] OS LSr ODS CS YS
section
variable {L : RL}
theorem small_ct (c : UInt8) : CS Tryz.prog 38 [.int .u8 (c.toNat : Nat)] L fun v L' => v = .bool (Go.Pd.lowB c) ∧ L' = L := by
  have e : Go.Pd.lowB c = (ileB 97 (c.toNat : Nat) && ileB (c.toNat : Nat) 122) := by rw [u8_le (k := 97) 97 rfl, u8_ge (k := 122) 122 rfl]; rfl
  rw [e]
  refine CS.mk (fn := Tryz.f38) rfl rfl rfl rfl ?_
  rcases tf (ileB 97 (c.toNat : Nat)) with h1 | h1 <;> rcases tf (ileB (c.toNat : Nat) 122) with h2 | h2 <;> rw [h1, h2]
  all_goals
    refine yG ?_
    exact ⟨rfl, rfl⟩
theorem digit_ct (c : UInt8) : CS Tryz.prog 39 [.int .u8 (c.toNat : Nat)] L fun v L' => v = .bool (Go.Pd.digB c) ∧ L' = L := by
  have e : Go.Pd.digB c = (ileB 48 (c.toNat : Nat) && ileB (c.toNat : Nat) 57) := by rw [u8_le (k := 48) 48 rfl, u8_ge (k := 57) 57 rfl]; rfl
  rw [e]
  refine CS.mk (fn := Tryz.f39) rfl rfl rfl rfl ?_
  rcases tf (ileB 48 (c.toNat : Nat)) with h1 | h1 <;> rcases tf (ileB (c.toNat : Nat) 57) with h2 | h2 <;> rw [h1, h2]
  all_goals
    refine yG ?_
    exact ⟨rfl, rfl⟩
theorem take_all {p : UInt8 → Bool} {s : List UInt8} {j : Nat} {b : UInt8} (hb : s[j]? = some b) (h : (s.take j).all p = true) (hp : p b = true) : (s.take (j + 1)).all p = true := by
  rw [Go.Pd.take_one hb, List.all_append, h]; simp [hp]
theorem not_all {p : UInt8 → Bool} {s : List UInt8} {j : Nat} {b : UInt8} (hb : s[j]? = some b) (hp : p b = false) : s.all p = false := by
  rw [Bool.eq_false_iff]
  intro hh
  have := List.all_eq_true.1 hh b (List.mem_of_getElem? hb)
  rw [hp] at this; cases this
theorem refName_ct (s : List UInt8) (hs : s.length ≤ 9000000000000000) : CS Tryz.prog 20 [str s] L fun v L' => v = .bool (Go.Pd.nameB s) ∧ L' = L := by
  rw [nameB_eq]
  refine CS.mk (fn := Tryz.f20) rfl rfl rfl rfl ?_
  cases s with
  | nil =>
    refine yG ?_
    exact ⟨rfl, rfl⟩
  | cons c t =>
    have hb : bytesEq (c :: t) [] = false := rfl
    by_cases hl : (c :: t).length ≤ 24
    · have hb2 : (!ileB (((c :: t).length : Nat) : Int) 24) = false := by rw [ileB_eq]; simp at hl ⊢; omega
      refine yG ?_
      refine OS.pure rfl (e_byte (j := 0) rfl rfl rfl rfl rfl) rfl ?_
      refine OS.call noGo rfl (fun _ => rfl) ((small_ct c).mono ?_)
      rintro v L' ⟨rfl, hL⟩
      rw [hL]
      clear hL
      refine ⟨_, rfl, ?_⟩
      rcases tf (Go.Pd.lowB c) with h | h
      rotate_left
      · rw [h]
        refine yG ?_
        rw [decide_eq_true hl]
        refine ⟨congrArg Value.bool ?_, rfl⟩
        simp [h]
      rw [h]
      refine yG ?_
      generalize hse : c :: t = s at *
      refine LS.loopJ [0, 3] (fun q a L' => ∃ j : Nat, q = s.length - j ∧ j ≤ s.length ∧ (s.take j).all ofName = true ∧ L' = L ∧ a = [str s, .chan none, .chan none, .int .i64 (j : Nat), .chan none, .chan none, .chan none, .chan none, .chan none, .chan none, .chan none, .chan none, .chan none, .chan none, .chan none, .chan none, .chan none, .chan none, .chan none, .chan none, .chan none, .chan none, .chan none, .chan none, .chan none, .chan none, .chan none, .chan none, .chan none, .chan none, .chan none, .chan none, .chan none, .chan none, .chan none, .chan none, .chan none, .chan none, .chan none, .chan none, .chan none, .chan none, .chan none, .chan none, .chan none, .chan none, .chan none]) (n := s.length) rfl ⟨0, rfl, by omega, rfl, rfl, rfl⟩ ?_
      rintro q a L' ⟨j, rfl, hj, ht, rfl, rfl⟩
      by_cases hjn : j < s.length
      · have hb : (!ileB ((s.length : Nat) : Int) (j : Nat)) = true := by rw [ileB_eq]; simp; omega
        have hbj : s[j]? = some s[j] := List.getElem?_eq_getElem hjn
        generalize s[j] = b at hbj
        have e : ofName b = (Go.Pd.lowB b || (Go.Pd.digB b || (ieqB (b.toNat : Nat) 45 || ieqB (b.toNat : Nat) 95))) := by rw [cmp_u8 (k := 45) b 45 rfl, cmp_u8 (k := 95) b 95 rfl]; rfl
        refine yG ?_
        refine OS.call noGo rfl (fun _ => rfl) ((small_ct b).mono ?_)
        rintro v L' ⟨rfl, hL⟩
        rw [hL]
        clear hL
        refine ⟨_, rfl, ?_⟩
        rcases tf (Go.Pd.lowB b) with h1 | h1
        · rw [h1]
          refine yG ?_
          exact ⟨s.length - (j + 1), by omega, j + 1, rfl, by omega, take_all hbj ht (by rw [e, h1]; rfl), rfl, rfl⟩
        rw [h1]
        refine yG ?_
        refine OS.call noGo rfl (fun _ => rfl) ((digit_ct b).mono ?_)
        rintro v L' ⟨rfl, hL⟩
        rw [hL]
        clear hL
        refine ⟨_, rfl, ?_⟩
        rcases tf (Go.Pd.digB b) with h2 | h2
        · rw [h2]
          refine yG ?_
          exact ⟨s.length - (j + 1), by omega, j + 1, rfl, by omega, take_all hbj ht (by rw [e, h1, h2]; rfl), rfl, rfl⟩
        rw [h2]
        rcases tf (ieqB (b.toNat : Nat) 45) with h3 | h3
        · have h3' : (!ieqB (b.toNat : Nat) 45) = false := by rw [h3]; rfl
          refine yG ?_
          exact ⟨s.length - (j + 1), by omega, j + 1, rfl, by omega, take_all hbj ht (by rw [e, h1, h2, h3]; rfl), rfl, rfl⟩
        have h3' : (!ieqB (b.toNat : Nat) 45) = true := by rw [h3]; rfl
        rcases tf (ieqB (b.toNat : Nat) 95) with h4 | h4
        · have h4' : (!ieqB (b.toNat : Nat) 95) = false := by rw [h4]; rfl
          refine yG ?_
          exact ⟨s.length - (j + 1), by omega, j + 1, rfl, by omega, take_all hbj ht (by rw [e, h1, h2, h3, h4]; rfl), rfl, rfl⟩
        have h4' : (!ieqB (b.toNat : Nat) 95) = true := by rw [h4]; rfl
        refine yG ?_
        rw [not_all hbj (by rw [e, h1, h2, h3, h4]; rfl)]
        simp only [Bool.and_false]
        exact ⟨rfl, trivial⟩
      · have hb : (!ileB ((s.length : Nat) : Int) (j : Nat)) = false := by rw [ileB_eq]; simp; omega
        refine yG ?_
        refine LS.exit ?_
        refine yG ?_
        rw [List.take_of_length_le (by omega)] at ht
        rw [decide_eq_true hl, ht, ← hse]
        refine ⟨congrArg Value.bool ?_, rfl⟩
        simp [h]
    · have hb2 : (!ileB (((c :: t).length : Nat) : Int) 24) = true := by rw [ileB_eq]; simp at hl ⊢; omega
      refine yG ?_
      rw [decide_eq_false hl]
      exact ⟨rfl, rfl⟩
theorem refWord_ct (s : List UInt8) (hs : s.length ≤ 1000000000000) : CS Tryz.prog 65 [str s] L fun v L' => v = .bool (Go.Pd.wordB s) ∧ L' = L := by
  unfold Go.Pd.wordB
  generalize hp : (fun c : UInt8 => decide (33 ≤ c.toNat) && decide (c.toNat ≤ 126)) = p
  have hpe : ∀ c : UInt8, p c = (ileB 33 (c.toNat : Nat) && ileB (c.toNat : Nat) 126) := fun c => by rw [u8_le (k := 33) 33 rfl, u8_ge (k := 126) 126 rfl, ← hp]
  refine CS.mk (fn := Tryz.f65) rfl rfl rfl rfl ?_
  cases s with
  | nil =>
    refine yG ?_
    exact ⟨rfl, rfl⟩
  | cons c t =>
    have hb : bytesEq (c :: t) [] = false := rfl
    by_cases hl : (c :: t).length ≤ 64
    · have hb2 : (!ileB (((c :: t).length : Nat) : Int) 64) = false := by rw [ileB_eq]; simp at hl ⊢; omega
      refine yG ?_
      generalize hse : c :: t = s at *
      have hne : s ≠ [] := by rw [← hse]; simp
      rw [decide_eq_true hl, decide_eq_true hne]
      refine LS.loopJ [0, 3] (fun q a L' => ∃ j : Nat, q = s.length - j ∧ j ≤ s.length ∧ (s.take j).all p = true ∧ L' = L ∧ a = [str s, .chan none, .chan none, .int .i64 (j : Nat), .chan none, .chan none, .chan none, .chan none, .chan none, .chan none, .chan none, .chan none, .chan none, .chan none, .chan none, .chan none, .chan none, .chan none, .chan none, .chan none, .chan none, .chan none, .chan none, .chan none, .chan none, .chan none, .chan none]) (n := s.length) rfl ⟨0, rfl, by omega, rfl, rfl, rfl⟩ ?_
      rintro q a L' ⟨j, rfl, hj, ht, rfl, rfl⟩
      by_cases hjn : j < s.length
      · have hb : (!ileB ((s.length : Nat) : Int) (j : Nat)) = true := by rw [ileB_eq]; simp; omega
        have hbj : s[j]? = some s[j] := List.getElem?_eq_getElem hjn
        generalize s[j] = b at hbj
        have e := hpe b
        rcases tf (ileB 33 (b.toNat : Nat)) with h1 | h1
        rotate_left
        · have h1' : (!ileB 33 (b.toNat : Nat)) = true := by rw [h1]; rfl
          refine yG ?_
          rw [not_all hbj (by rw [e, h1]; rfl)]
          exact ⟨rfl, rfl⟩
        have h1' : (!ileB 33 (b.toNat : Nat)) = false := by rw [h1]; rfl
        rcases tf (ileB (b.toNat : Nat) 126) with h2 | h2
        rotate_left
        · have h2' : (!ileB (b.toNat : Nat) 126) = true := by rw [h2]; rfl
          refine yG ?_
          rw [not_all hbj (by rw [e, h1, h2]; rfl)]
          exact ⟨rfl, rfl⟩
        have h2' : (!ileB (b.toNat : Nat) 126) = false := by rw [h2]; rfl
        refine yG ?_
        exact ⟨s.length - (j + 1), by omega, j + 1, rfl, by omega, take_all hbj ht (by rw [e, h1, h2]; rfl), rfl, rfl⟩
      · have hb : (!ileB ((s.length : Nat) : Int) (j : Nat)) = false := by rw [ileB_eq]; simp; omega
        refine yG ?_
        refine LS.exit ?_
        refine yG ?_
        rw [List.take_of_length_le (by omega)] at ht
        rw [ht]
        exact ⟨rfl, rfl⟩
    · have hb2 : (!ileB (((c :: t).length : Nat) : Int) 64) = true := by rw [ileB_eq]; simp at hl ⊢; omega
      refine yG ?_
      rw [decide_eq_false hl]
      exact ⟨by simp <;> rfl, rfl⟩
theorem numV_snoc (s : List UInt8) (c : UInt8) : Go.Pd.numV (s ++ [c]) = 10 * Go.Pd.numV s + (c.toNat - 48) := by simp [Go.Pd.numV]
theorem refNumber_ct (s : List UInt8) (hs : s.length ≤ 1000000000000) : CS Tryz.prog 66 [str s] L fun v L' => v = .int .i64 (Go.Pd.numN s : Nat) ∧ L' = L := by
  unfold Go.Pd.numN
  refine CS.mk (fn := Tryz.f66) rfl rfl rfl rfl ?_
  cases s with
  | nil =>
    refine yG ?_
    exact ⟨rfl, rfl⟩
  | cons c t =>
    have hb : bytesEq (c :: t) [] = false := rfl
    by_cases hc : c = 48
    · subst hc
      have hb0 : ieqB ((48 : UInt8).toNat : Nat) 48 = true := rfl
      refine yG ?_
      refine OS.pure rfl (e_byte (j := 0) rfl rfl rfl rfl rfl) rfl ?_
      refine yG ?_
      exact ⟨rfl, rfl⟩
    have hc0 : ieqB (c.toNat : Nat) 48 = false := by rw [cmp_u8 (k := 48) c 48 rfl]; simpa using hc
    by_cases hl : (c :: t).length ≤ 6
    rotate_left
    · have hb2 : (!ileB (((c :: t).length : Nat) : Int) 6) = true := by rw [ileB_eq]; simp at hl ⊢; omega
      refine yG ?_
      refine OS.pure rfl (e_byte (j := 0) rfl rfl rfl rfl rfl) rfl ?_
      refine yG ?_
      rw [if_pos (.inr (.inr (by omega)))]
      exact ⟨rfl, rfl⟩
    have hb2 : (!ileB (((c :: t).length : Nat) : Int) 6) = false := by rw [ileB_eq]; simp at hl ⊢; omega
    rw [if_neg (by rintro (h | h | h); cases h; exact hc (by simpa using h); omega)]
    refine yG ?_
    refine OS.pure rfl (e_byte (j := 0) rfl rfl rfl rfl rfl) rfl ?_
    refine yG ?_
    generalize hse : c :: t = s at *
    refine LS.loopJ [0, 3, 4] (fun q a L' => ∃ j : Nat, q = s.length - j ∧ j ≤ s.length ∧ (s.take j).all digB = true ∧ numV (s.take j) < 10 ^ j ∧ L' = L ∧ a = [str s, .chan none, .chan none, .int .i64 (numV (s.take j) : Nat), .int .i64 (j : Nat), .chan none, .chan none, .chan none, .chan none, .chan none, .chan none, .chan none, .chan none, .chan none, .chan none, .chan none, .chan none, .chan none, .chan none, .chan none, .chan none, .chan none, .chan none, .chan none, .chan none, .chan none, .chan none, .chan none, .chan none, .chan none, .chan none, .chan none, .chan none, .chan none, .chan none, .chan none, .chan none]) (n := s.length) rfl ⟨0, rfl, by omega, rfl, by simp [numV], rfl, rfl⟩ ?_
    rintro q a L' ⟨j, rfl, hj, ht, hv, rfl, rfl⟩
    by_cases hjn : j < s.length
    · have hb : (!ileB ((s.length : Nat) : Int) (j : Nat)) = true := by rw [ileB_eq]; simp; omega
      have hbj : s[j]? = some s[j] := List.getElem?_eq_getElem hjn
      generalize s[j] = b at hbj
      have hv6 : numV (s.take j) ≤ 1000000 := by
        have : (10 : Nat) ^ j ≤ 10 ^ 6 := Nat.pow_le_pow_right (by decide) (by omega)
        omega
      have hblt := b.toNat_lt
      refine yG ?_
      refine OS.call noGo rfl (fun _ => rfl) ((digit_ct b).mono ?_)
      rintro v L' ⟨rfl, hL⟩
      rw [hL]
      clear hL
      refine ⟨_, rfl, ?_⟩
      rcases tf (Go.Pd.digB b) with h2 | h2
      rotate_left
      · rw [h2]
        refine yG ?_
        rw [not_all hbj h2]
        exact ⟨rfl, rfl⟩
      have h48 : 48 ≤ b.toNat ∧ b.toNat ≤ 57 := by simpa [digB] using h2
      rw [h2]
      refine yG ?_
      have hnv : ((numV (s.take (j + 1)) : Nat) : Int) = 10 * ((numV (s.take j) : Nat) : Int) + ((b.toNat : Nat) : Int) - 48 := by
        rw [Go.Pd.take_one hbj, numV_snoc]; omega
      refine OS.pure rfl (e_mul rfl rfl rfl (in_i64 (by omega) (by omega))) rfl ?_
      refine yG ?_
      refine OS.pure rfl (e_conv rfl rfl rfl rfl (in_i64 (by omega) (by omega))) rfl ?_
      refine OS.pure rfl (e_add rfl rfl rfl (in_i64 (by omega) (by omega))) rfl ?_
      refine OS.pure rfl (e_sub rfl rfl rfl (in_i64 (by omega) (by omega))) rfl ?_
      refine yG ?_
      refine ⟨s.length - (j + 1), by omega, j + 1, rfl, by omega, take_all hbj ht h2, ?_, rfl, ?_⟩
      · rw [Go.Pd.take_one hbj, numV_snoc, Nat.pow_succ]; omega
      · rw [hnv]; rfl
    · have hb : (!ileB ((s.length : Nat) : Int) (j : Nat)) = false := by rw [ileB_eq]; simp; omega
      refine yG ?_
      refine LS.exit ?_
      refine yG ?_
      rw [List.take_of_length_le (by omega)] at ht ⊢
      rw [if_pos ht]
      exact ⟨rfl, rfl⟩
end
end Go.Proofs.YtfmgoagkjjmefaaGreatDoor

/- Layer 12, the document's Path. -/
namespace Go.Pd
def okc (c : UInt8) : Bool := lowB c || (upB c || (digB c || (c == 45 || (c == 95 || c == 46))))
def pth (p : B) : B → Bool
  | [] => partB p
  | c :: t => if c = 47 then partB p && pth [] t else okc c && pth (p ++ [c]) t
def pre (p : B) : List B → List B
  | h :: r => (p ++ h) :: r
  | [] => [p]
theorem parts_ne : ∀ s : B, parts s ≠ []
  | [] => by simp [parts]
  | c :: t => by
    unfold parts
    split
    · simp
    · split <;> simp
theorem pth_eq : ∀ (s p : B), pth p s = ((pre p (parts s)).all partB && s.all fun c => c == 47 || okc c)
  | [], p => by simp [pth, parts, pre]
  | c :: t, p => by
    unfold pth parts
    by_cases h : c = 47
    · rw [if_pos h, if_pos h, pth_eq t []]
      cases hp : parts t with
      | nil => exact absurd hp (parts_ne t)
      | cons x r => simp [pre, h, Bool.and_assoc]
    · rw [if_neg h, if_neg h, pth_eq t (p ++ [c])]
      have hb : (c == 47) = false := by simpa using h
      cases hp : parts t with
      | nil => exact absurd hp (parts_ne t)
      | cons x r =>
        simp only [pre, List.all_cons, hb, Bool.false_or, List.append_assoc, List.cons_append, List.nil_append]
        cases okc c <;> cases partB (p ++ c :: x) <;> cases r.all partB <;> cases t.all (fun c => c == 47 || okc c) <;> rfl
theorem path_pth (s : B) : pathB s = (decide (s.length ≤ 48) && pth [] s) := by
  rw [pth_eq]
  unfold pathB
  cases hp : parts s with
  | nil => exact absurd hp (parts_ne s)
  | cons x r => rfl
end Go.Pd
namespace Go.Proofs.YtfmgoagkjjmefaaGreatDoor
open Go.Am Go.Pd
set_option linter.unusedVariables false
set_option maxRecDepth 20000
set_option maxHeartbeats 4000000
attribute [local irreducible] OS LSr ODS CS YS
section
variable {L : RL}
theorem refPath_ct (s : List UInt8) (hs : s.length ≤ 9000000000000000) : CS Tryz.prog 22 [str s] L fun v L' => v = .bool (Go.Pd.pathB s) ∧ L' = L := by
  rw [path_pth]
  refine CS.mk (fn := Tryz.f22) rfl rfl rfl rfl ?_
  by_cases hl : s.length ≤ 48
  rotate_left
  · have hb2 : (!ileB ((s.length : Nat) : Int) 48) = true := by rw [ileB_eq]; simp; omega
    refine yG ?_
    rw [decide_eq_false hl]
    exact ⟨rfl, rfl⟩
  have hb2 : (!ileB ((s.length : Nat) : Int) 48) = false := by rw [ileB_eq]; simp; omega
  rw [decide_eq_true hl, Bool.true_and]
  refine yG ?_
  refine LS.loopJ [0, 3, 4] (fun q a L' => ∃ (i : Nat) (p : List UInt8), q = s.length + 1 - i ∧ p.length ≤ i ∧ ((i ≤ s.length ∧ pth [] s = pth p (s.drop i)) ∨ (i = s.length + 1 ∧ pth [] s = true)) ∧ L' = L ∧ a = [str s, .chan none, .chan none, str p, .int .i64 (i : Nat), .chan none, .chan none, .chan none, .chan none, .chan none, .chan none, .chan none, .chan none, .chan none, .chan none, .chan none, .chan none, .chan none, .chan none, .chan none, .chan none, .chan none, .chan none, .chan none, .chan none, .chan none, .chan none, .chan none, .chan none, .chan none, .chan none, .chan none, .chan none, .chan none, .chan none, .chan none, .chan none, .chan none, .chan none, .chan none, .chan none, .chan none, .chan none, .chan none, .chan none, .chan none, .chan none, .chan none, .chan none, .chan none, .chan none, .chan none, .chan none, .chan none, .chan none, .chan none, .chan none, .chan none, .chan none, .chan none, .chan none, .chan none, .chan none, .chan none, .chan none, .chan none, .chan none, .chan none, .chan none, .chan none, .chan none, .chan none, .chan none, .chan none]) (n := s.length + 1) rfl ⟨0, [], rfl, by simp, .inl ⟨by omega, rfl⟩, rfl, rfl⟩ ?_
  rintro q a L' ⟨i, p, rfl, hpl, hcase, rfl, rfl⟩
  rcases hcase with ⟨hi, hE⟩ | ⟨rfl, hE⟩
  rotate_left
  · have hb : ileB ((s.length + 1 : Nat) : Int) (s.length : Nat) = false := by rw [ileB_eq]; simp; omega
    refine yG ?_
    refine LS.exit ?_
    refine yG ?_
    rw [hE]
    exact ⟨rfl, rfl⟩
  have hb : ileB ((i : Nat) : Int) (s.length : Nat) = true := by rw [ileB_eq]; simp; omega
  have hpart : partB p = !(bytesEq p [] || (bytesEq p [46] || bytesEq p [46, 46])) := by rw [beq_bytes, beq_bytes, beq_bytes]; rfl
  have hend : partB p = false → pth [] s = false ∨ True := fun _ => .inr trivial
  by_cases hin : i = s.length
  · subst hin
    have hbe : ieqB ((s.length : Nat) : Int) (s.length : Nat) = true := by rw [ieqB_eq]; simp
    rw [List.drop_length, pth] at hE
    rcases tf (bytesEq p []) with h1 | h1
    · refine yG ?_
      rw [hE, hpart, h1]
      exact ⟨rfl, rfl⟩
    rcases tf (bytesEq p [46]) with h2 | h2
    · refine yG ?_
      rw [hE, hpart, h1, h2]
      exact ⟨rfl, rfl⟩
    rcases tf (bytesEq p [46, 46]) with h3 | h3
    · refine yG ?_
      rw [hE, hpart, h1, h2, h3]
      exact ⟨rfl, rfl⟩
    refine yG ?_
    show LSr _ _ _ _ _ _
    refine LS.exit ?_
    refine yG ?_
    exact ⟨0, by omega, s.length + 1, [], by omega, by simp, .inr ⟨rfl, by rw [hE, hpart, h1, h2, h3]; rfl⟩, rfl, rfl⟩
  have hin2 : i < s.length := by omega
  have hbe : ieqB ((i : Nat) : Int) (s.length : Nat) = false := by rw [ieqB_eq]; simp; omega
  have hbj : s[i]? = some s[i] := List.getElem?_eq_getElem hin2
  have hdrop : s.drop i = s[i] :: s.drop (i + 1) := List.drop_eq_getElem_cons hin2
  generalize s[i] = b at hbj hdrop
  rw [hdrop, pth] at hE
  have e47 := cmp_u8 (k := 47) b 47 rfl
  by_cases h47 : b = 47
  · have hb47 : ieqB (b.toNat : Nat) 47 = true := by rw [e47]; simpa using h47
    rw [if_pos h47] at hE
    rcases tf (bytesEq p []) with h1 | h1
    · refine yG ?_
      rw [hE, hpart, h1]
      exact ⟨rfl, rfl⟩
    rcases tf (bytesEq p [46]) with h2 | h2
    · refine yG ?_
      rw [hE, hpart, h1, h2]
      exact ⟨rfl, rfl⟩
    rcases tf (bytesEq p [46, 46]) with h3 | h3
    · refine yG ?_
      rw [hE, hpart, h1, h2, h3]
      exact ⟨rfl, rfl⟩
    refine yG ?_
    show LSr _ _ _ _ _ _
    refine LS.exit ?_
    refine yG ?_
    exact ⟨s.length + 1 - (i + 1), by omega, i + 1, [], rfl, by simp, .inl ⟨by omega, by rw [hE, hpart, h1, h2, h3]; rfl⟩, rfl, rfl⟩
  have hb47 : ieqB (b.toNat : Nat) 47 = false := by rw [e47]; simpa using h47
  rw [if_neg h47] at hE
  have e : okc b = (Go.Pd.lowB b || ((ileB 65 (b.toNat : Nat) && ileB (b.toNat : Nat) 90) || (Go.Pd.digB b || (ieqB (b.toNat : Nat) 45 || (ieqB (b.toNat : Nat) 95 || ieqB (b.toNat : Nat) 46))))) := by
    rw [u8_le (k := 65) 65 rfl, u8_ge (k := 90) 90 rfl, cmp_u8 (k := 45) b 45 rfl, cmp_u8 (k := 95) b 95 rfl, cmp_u8 (k := 46) b 46 rfl]; rfl
  refine yG ?_
  refine OS.call noGo rfl (fun _ => rfl) ((small_ct b).mono ?_)
  rintro v L' ⟨rfl, hL⟩
  rw [hL]
  clear hL
  refine ⟨_, rfl, ?_⟩
  rcases tf (Go.Pd.lowB b) with h1 | h1
  · rw [h1]
    refine yG ?_
    refine OS.pure rfl (e_part (s := s) (l := i) (u := i + 1) rfl rfl rfl rfl (bound_nat (d := 0)) (bound_nat (d := s.length)) rfl (by omega) (by omega)) rfl ?_
    rw [show (s.drop i).take (i + 1 - i) = [b] by rw [hdrop, show i + 1 - i = 1 by omega]; rfl]
    refine OS.pure rfl (e_cat rfl rfl rfl (by simp; omega)) rfl ?_
    refine yG ?_
    exact ⟨s.length + 1 - (i + 1), by omega, i + 1, p ++ [b], rfl, by simp; omega, .inl ⟨by omega, by rw [hE, e, h1]; rfl⟩, rfl, rfl⟩
  rw [h1]
  rcases tf (ileB 65 (b.toNat : Nat)) with h2 | h2
  rotate_left
  · clear hb2
    refine yG ?_
    refine OS.call noGo rfl (fun _ => rfl) ((digit_ct b).mono ?_)
    rintro v L' ⟨rfl, hL⟩
    rw [hL]
    clear hL
    refine ⟨_, rfl, ?_⟩
    rcases tf (Go.Pd.digB b) with h4 | h4
    · rw [h4]
      refine yG ?_
      refine OS.pure rfl (e_part (s := s) (l := i) (u := i + 1) rfl rfl rfl rfl (bound_nat (d := 0)) (bound_nat (d := s.length)) rfl (by omega) (by omega)) rfl ?_
      rw [show (s.drop i).take (i + 1 - i) = [b] by rw [hdrop, show i + 1 - i = 1 by omega]; rfl]
      refine OS.pure rfl (e_cat rfl rfl rfl (by simp; omega)) rfl ?_
      refine yG ?_
      exact ⟨s.length + 1 - (i + 1), by omega, i + 1, p ++ [b], rfl, by simp; omega, .inl ⟨by omega, by rw [hE, e, h1, h2, h4]; rfl⟩, rfl, rfl⟩
    rw [h4]
    rcases tf (ieqB (b.toNat : Nat) 45) with h5 | h5
    · have h5' : (!ieqB (b.toNat : Nat) 45) = false := by rw [h5]; rfl
      refine yG ?_
      refine OS.pure rfl (e_part (s := s) (l := i) (u := i + 1) rfl rfl rfl rfl (bound_nat (d := 0)) (bound_nat (d := s.length)) rfl (by omega) (by omega)) rfl ?_
      rw [show (s.drop i).take (i + 1 - i) = [b] by rw [hdrop, show i + 1 - i = 1 by omega]; rfl]
      refine OS.pure rfl (e_cat rfl rfl rfl (by simp; omega)) rfl ?_
      refine yG ?_
      exact ⟨s.length + 1 - (i + 1), by omega, i + 1, p ++ [b], rfl, by simp; omega, .inl ⟨by omega, by rw [hE, e, h1, h2, h4, h5]; rfl⟩, rfl, rfl⟩
    have h5' : (!ieqB (b.toNat : Nat) 45) = true := by rw [h5]; rfl
    rcases tf (ieqB (b.toNat : Nat) 95) with h6 | h6
    · have h6' : (!ieqB (b.toNat : Nat) 95) = false := by rw [h6]; rfl
      refine yG ?_
      refine OS.pure rfl (e_part (s := s) (l := i) (u := i + 1) rfl rfl rfl rfl (bound_nat (d := 0)) (bound_nat (d := s.length)) rfl (by omega) (by omega)) rfl ?_
      rw [show (s.drop i).take (i + 1 - i) = [b] by rw [hdrop, show i + 1 - i = 1 by omega]; rfl]
      refine OS.pure rfl (e_cat rfl rfl rfl (by simp; omega)) rfl ?_
      refine yG ?_
      exact ⟨s.length + 1 - (i + 1), by omega, i + 1, p ++ [b], rfl, by simp; omega, .inl ⟨by omega, by rw [hE, e, h1, h2, h4, h5, h6]; rfl⟩, rfl, rfl⟩
    have h6' : (!ieqB (b.toNat : Nat) 95) = true := by rw [h6]; rfl
    rcases tf (ieqB (b.toNat : Nat) 46) with h7 | h7
    · have h7' : (!ieqB (b.toNat : Nat) 46) = false := by rw [h7]; rfl
      refine yG ?_
      refine OS.pure rfl (e_part (s := s) (l := i) (u := i + 1) rfl rfl rfl rfl (bound_nat (d := 0)) (bound_nat (d := s.length)) rfl (by omega) (by omega)) rfl ?_
      rw [show (s.drop i).take (i + 1 - i) = [b] by rw [hdrop, show i + 1 - i = 1 by omega]; rfl]
      refine OS.pure rfl (e_cat rfl rfl rfl (by simp; omega)) rfl ?_
      refine yG ?_
      exact ⟨s.length + 1 - (i + 1), by omega, i + 1, p ++ [b], rfl, by simp; omega, .inl ⟨by omega, by rw [hE, e, h1, h2, h4, h5, h6, h7]; rfl⟩, rfl, rfl⟩
    have h7' : (!ieqB (b.toNat : Nat) 46) = true := by rw [h7]; rfl
    refine yG ?_
    rw [hE, e, h1, h2, h4, h5, h6, h7]
    exact ⟨rfl, rfl⟩
  rcases tf (ileB (b.toNat : Nat) 90) with h3 | h3
  rotate_left
  · clear hb2
    refine yG ?_
    refine OS.call noGo rfl (fun _ => rfl) ((digit_ct b).mono ?_)
    rintro v L' ⟨rfl, hL⟩
    rw [hL]
    clear hL
    refine ⟨_, rfl, ?_⟩
    rcases tf (Go.Pd.digB b) with h4 | h4
    · rw [h4]
      refine yG ?_
      refine OS.pure rfl (e_part (s := s) (l := i) (u := i + 1) rfl rfl rfl rfl (bound_nat (d := 0)) (bound_nat (d := s.length)) rfl (by omega) (by omega)) rfl ?_
      rw [show (s.drop i).take (i + 1 - i) = [b] by rw [hdrop, show i + 1 - i = 1 by omega]; rfl]
      refine OS.pure rfl (e_cat rfl rfl rfl (by simp; omega)) rfl ?_
      refine yG ?_
      exact ⟨s.length + 1 - (i + 1), by omega, i + 1, p ++ [b], rfl, by simp; omega, .inl ⟨by omega, by rw [hE, e, h1, h2, h3, h4]; rfl⟩, rfl, rfl⟩
    rw [h4]
    rcases tf (ieqB (b.toNat : Nat) 45) with h5 | h5
    · have h5' : (!ieqB (b.toNat : Nat) 45) = false := by rw [h5]; rfl
      refine yG ?_
      refine OS.pure rfl (e_part (s := s) (l := i) (u := i + 1) rfl rfl rfl rfl (bound_nat (d := 0)) (bound_nat (d := s.length)) rfl (by omega) (by omega)) rfl ?_
      rw [show (s.drop i).take (i + 1 - i) = [b] by rw [hdrop, show i + 1 - i = 1 by omega]; rfl]
      refine OS.pure rfl (e_cat rfl rfl rfl (by simp; omega)) rfl ?_
      refine yG ?_
      exact ⟨s.length + 1 - (i + 1), by omega, i + 1, p ++ [b], rfl, by simp; omega, .inl ⟨by omega, by rw [hE, e, h1, h2, h3, h4, h5]; rfl⟩, rfl, rfl⟩
    have h5' : (!ieqB (b.toNat : Nat) 45) = true := by rw [h5]; rfl
    rcases tf (ieqB (b.toNat : Nat) 95) with h6 | h6
    · have h6' : (!ieqB (b.toNat : Nat) 95) = false := by rw [h6]; rfl
      refine yG ?_
      refine OS.pure rfl (e_part (s := s) (l := i) (u := i + 1) rfl rfl rfl rfl (bound_nat (d := 0)) (bound_nat (d := s.length)) rfl (by omega) (by omega)) rfl ?_
      rw [show (s.drop i).take (i + 1 - i) = [b] by rw [hdrop, show i + 1 - i = 1 by omega]; rfl]
      refine OS.pure rfl (e_cat rfl rfl rfl (by simp; omega)) rfl ?_
      refine yG ?_
      exact ⟨s.length + 1 - (i + 1), by omega, i + 1, p ++ [b], rfl, by simp; omega, .inl ⟨by omega, by rw [hE, e, h1, h2, h3, h4, h5, h6]; rfl⟩, rfl, rfl⟩
    have h6' : (!ieqB (b.toNat : Nat) 95) = true := by rw [h6]; rfl
    rcases tf (ieqB (b.toNat : Nat) 46) with h7 | h7
    · have h7' : (!ieqB (b.toNat : Nat) 46) = false := by rw [h7]; rfl
      refine yG ?_
      refine OS.pure rfl (e_part (s := s) (l := i) (u := i + 1) rfl rfl rfl rfl (bound_nat (d := 0)) (bound_nat (d := s.length)) rfl (by omega) (by omega)) rfl ?_
      rw [show (s.drop i).take (i + 1 - i) = [b] by rw [hdrop, show i + 1 - i = 1 by omega]; rfl]
      refine OS.pure rfl (e_cat rfl rfl rfl (by simp; omega)) rfl ?_
      refine yG ?_
      exact ⟨s.length + 1 - (i + 1), by omega, i + 1, p ++ [b], rfl, by simp; omega, .inl ⟨by omega, by rw [hE, e, h1, h2, h3, h4, h5, h6, h7]; rfl⟩, rfl, rfl⟩
    have h7' : (!ieqB (b.toNat : Nat) 46) = true := by rw [h7]; rfl
    refine yG ?_
    rw [hE, e, h1, h2, h3, h4, h5, h6, h7]
    exact ⟨rfl, rfl⟩
  refine yG ?_
  refine OS.pure rfl (e_part (s := s) (l := i) (u := i + 1) rfl rfl rfl rfl (bound_nat (d := 0)) (bound_nat (d := s.length)) rfl (by omega) (by omega)) rfl ?_
  rw [show (s.drop i).take (i + 1 - i) = [b] by rw [hdrop, show i + 1 - i = 1 by omega]; rfl]
  refine OS.pure rfl (e_cat rfl rfl rfl (by simp; omega)) rfl ?_
  refine yG ?_
  exact ⟨s.length + 1 - (i + 1), by omega, i + 1, p ++ [b], rfl, by simp; omega, .inl ⟨by omega, by rw [hE, e, h1, h2, h3]; rfl⟩, rfl, rfl⟩
end
end Go.Proofs.YtfmgoagkjjmefaaGreatDoor

/- Layer 12: DescWords' law. -/
namespace Go.Proofs.YtfmgoagkjjmefaaGreatDoor
open Go.Am Go.Pd
set_option linter.unusedVariables false
set_option maxRecDepth 20000
set_option maxHeartbeats 4000000
attribute [local irreducible] OS LSr ODS CS YS
theorem same_bool (b : Bool) : ∀ x : Bool, b = x → (b == x) = true := by intro x h; subst h; simp
theorem descWords_ct {F : RL} {g : Gn} (hG : GL g F) (s : List UInt8) (hs : s.length ≤ 9000000000000000) : CS Tryz.prog 5 [str s] F fun v L' => v = .bool true := by
  refine CS.mk (fn := Tryz.f5) rfl rfl rfl rfl ?_
  refine yG ?_
  refine OS.call noGo rfl (fun _ => rfl) ((Name_ct s hs).mono ?_)
  rintro v L' ⟨rfl, hL⟩
  rw [hL]
  clear hL
  refine ⟨_, rfl, ?_⟩
  refine yG ?_
  refine OS.call noGo rfl (fun _ => rfl) ((refName_ct s hs).mono ?_)
  rintro v L' ⟨rfl, hL⟩
  rw [hL]
  clear hL
  refine ⟨_, rfl, ?_⟩
  generalize Go.Pd.nameB s = b
  rcases tf b with hb | hb <;> rw [hb]
  all_goals
    refine yG ?_
    refine OS.call noGo rfl (fun _ => rfl) ((Path_ct s hs).mono ?_)
    rintro v L' ⟨rfl, hL⟩
    rw [hL, path_eq]
    clear hL
    refine ⟨_, rfl, ?_⟩
    refine yG ?_
    refine OS.call noGo rfl (fun _ => rfl) ((refPath_ct s hs).mono ?_)
    rintro v L' ⟨rfl, hL⟩
    rw [hL]
    clear hL
    refine ⟨_, rfl, ?_⟩
    generalize Go.Pd.pathB s = b2
    rcases tf b2 with hb2 | hb2 <;> rw [hb2]
    all_goals
      refine yG ?_
      refine OS.call noGo rfl (fun _ => rfl) ((awake_ct hG).mono ?_)
      rintro v L' ⟨rfl, _⟩
      refine ⟨_, rfl, ?_⟩
      refine yG ?_
      rfl
end Go.Proofs.YtfmgoagkjjmefaaGreatDoor

/- Package variables at the entry. -/
namespace Go.Am
variable {P : Program} {ρ : Env} {h : AW} {w : World} {L : RL}
theorem enterG (HR : HRel P ρ h w) (ro : ∀ r row, h.get r = some row → row.own = false) (H : Has h L) (g : Nat) (cs : List Value) (hb : g < w.heap.size) (hc : cs ≠ [] → ∃ e f, w.heap[g]? = some (.cells ⟨cs⟩ e f)) :
    ∃ r ρ' h', ρ.le ρ' ∧ HRel P ρ' h' w ∧ (∀ r row, h'.get r = some row → row.own = false) ∧ Has h' ((r, .glob g cs) :: L) := by
  obtain ⟨h', e⟩ := h.new_some (.glob g cs)
  obtain ⟨_, hg, hn, hs⟩ := new_eq e
  have hnone : ρ h.next = none := HR.fresh0
  have le := upd_le (l := { block := g, base := 0, ext := 0, esz := 0 }) hnone
  have ro' : ∀ r row, h'.get r = some row → row.own = false := fun r row hr => by
    rw [hg] at hr
    split at hr
    · simp at hr; subst hr; rfl
    · exact ro r row hr
  refine ⟨h.next, upd ρ h.next { block := g, base := 0, ext := 0, esz := 0 }, h', le, ⟨fun r row hr => ?_, fun r r' row row' l₁ l₂ h1 h2 _ _ _ ho => ?_, fresh_upd HR rfl hn hs, by rw [hs]; exact HR.step⟩, ro', H.new e⟩
  · rw [hg] at hr
    split at hr
    · simp at hr; subst hr; subst_vars
      exact ⟨{ block := g, base := 0, ext := 0, esz := 0 }, by simp [upd], ⟨rfl, rfl⟩, hb, hc⟩
    · obtain ⟨l', hl', hr'⟩ := HR.loc r row hr
      exact ⟨l', le _ _ hl', hr'.keep le rfl⟩
  · rw [ro' r row h1, ro' r' row' h2] at ho; simp at ho
end Go.Am

/- A law that reads package variables: what is there besides at the entry. -/
namespace Go.Am
section
variable {H : Type} {enc : TypeId × Value → H}
/-- As the kit's way in, but that the world's shape is handed on: the descriptors' block is there. -/
theorem handed_shaped {a : Assume} {C : Checked} {os : Os} {f : FuncId} {fn : Func} {s : ChangeSpec} {conds : List PathCond} {apart fresh handsOn again : Bool} {X : World → Prop} (hX : ∀ w w' : World, w.heap = w'.heap → X w → X w')
    (own : ownKnob C.prog.godebug = none) (started : os.Started) (noInit : C.prog.inits.idxOf? f = none) (hfn : C.prog.funcs[f]? = some fn)
    (witness : ∃ (w : World) (tape : Tape) (i : Input), w.os = os ∧ (w.forCall tape i).Shaped C.prog ∧ i.vars = [] ∧ Input.okWide C.prog (w.forCall tape i) .any w.heap.size f i ∧
      ((s.pre enc C.prog fn conds apart (w.forCall tape i).memory i.args ∧ X (w.forCall tape i).memory) ∧ sizedMet enc C.prog fn (OpenSpec.ofChange s) apart (w.forCall tape i).memory i.args) ∧ a.holds C.prog (lone (Frame.enter C.prog f i.args .normal) [] (w.forCall tape i)))
    (contract : ∀ (W : World) (base : Nat) (args : Array Value) (ds gs : List (DataW H)) (before : List MemPlace), W.ShapedOpen C.prog →
      (∀ (j : Nat) t v, fn.params[j]? = some t → args[j]? = some v → Value.okWide C.prog W .any base t v) → DataW.Whole enc C.prog fn.params.toList s.vars apart W args.toList ds gs before →
      conds.all (PathCond.test C.prog ⟨fn.params.toList, ds, s.plain.varTypes C.prog, gs⟩) = true → (DataW.weightsEach C.prog (fn.params.toList ++ s.plain.varTypes C.prog) (ds ++ gs)).all (· ≤ reachBytes) = true → X W →
      a.holds C.prog (lone (Frame.enter C.prog f args .normal) [] W) → Calls C.prog f args W fun e W' => ∃ v, e = .returned v ∧ s.post enc C.prog fn apart fresh handsOn again W args v W') :
    ReturnsInHanded a C os f .any (fun w args => (s.pre enc C.prog fn conds apart w args ∧ X w) ∧ sizedMet enc C.prog fn (OpenSpec.ofChange s) apart w args) (s.post enc C.prog fn apart fresh handsOn again) := by
  refine returnsInHanded_of_calls own started noInit witness ?_
  intro w tape i _ hsh _ hok hpre hholds
  obtain ⟨_, _, _, fn', hfn', _, _, _, _, hval⟩ := hok
  obtain rfl : fn' = fn := Option.some.inj (hfn'.symm.trans hfn)
  obtain ⟨⟨⟨ds, gs, before, hw, hc⟩, hx⟩, hz⟩ := hpre
  have hw' := DataW.Whole.of_heap (w' := w.forCall tape i) (by rfl) hw
  refine (contract (w.forCall tape i) w.heap.size i.args ds gs before hsh hval hw' hc (hz.weights hw) (hX _ _ (by rfl) hx) hholds).mono fun e W' ⟨v, he, hp⟩ => ?_
  subst he
  exact ChangeSpec.post_blind hp
theorem shaped_size {P : Program} {w : World} (h : w.ShapedOpen P) (hb : P.globals.size < (begin P (fun _ _ => 0) default).world.heap.size) : P.globals.size < w.heap.size := by
  obtain ⟨o, _, ho, _⟩ := h.2 _ (Nat.le_refl _) hb
  rcases Nat.lt_or_ge P.globals.size w.heap.size with h | h
  · exact h
  · rw [Array.getElem?_eq_none h] at ho; cases ho
theorem var_glob {P : Program} {w : World} {n : String} {g : Nat} {cs : Array Value} (hn : P.globalNamed n = some g) (h : w.var? P n = some cs) : g < w.heap.size ∧ ∃ e f, w.heap[g]? = some (.cells cs e f) := by
  unfold World.var? at h
  rw [hn] at h
  simp only [Option.bind_some] at h
  split at h
  · rename_i c e f hg
    simp at h; subst h
    refine ⟨?_, e, f, hg⟩
    rcases Nat.lt_or_ge g w.heap.size with h | h
    · exact h
    · rw [Array.getElem?_eq_none h] at hg; cases hg
  · cases h
end
end Go.Am

/- The package variables that a law of layer 12 finds at its entry. -/
namespace Go.Proofs.YtfmgoagkjjmefaaGreatDoor
open Go.Am
set_option linter.unusedVariables false
set_option maxRecDepth 20000
abbrev LD : List (String × DataW Unit) := Rows.descWordsRow.laid
theorem rt_is : (Tryz.prog.cutTypes.find? (·.1 == "internal/reflectlite.rtype")).map (·.2) = some RT := by kernel_rfl
theorem row_is : ((List.range Tryz.prog.types.size).filter fun t => Tryz.prog.rowNamed t [101, 114, 114, 111, 114]) = [56] := by kernel_rfl
theorem et_is : Tryz.prog.globalNamed "errors.errorType" = some 0 := by kernel_rfl
theorem es_is : Tryz.prog.globalNamed "strconv.ErrSyntax" = some 4 := by kernel_rfl
theorem er_is : Tryz.prog.globalNamed "strconv.ErrRange" = some 5 := by kernel_rfl
theorem pw_is : Tryz.prog.globalNamed "internal/strconv.uint64pow10" = some 6 := by kernel_rfl
theorem errorType_of {W : World} (h : laidMetH Tryz.prog LD W) : W.var? Tryz.prog "errors.errorType" = some #[.iface RT (.agg #[wh 56])] := by
  have h' : laidMet Tryz.prog (LD.filter fun x => x.2.handleName?.isNone) W ∧ handlesMet Tryz.prog [("errors.errorType", Rows.laid_errors_errorType)] W := h
  obtain ⟨name, u, ty, e1, e2, e3, e4, e5⟩ := h'.2 _ (List.mem_singleton.2 rfl)
  have en : name = [101, 114, 114, 111, 114] := (Option.some.inj e1).symm
  subst en
  obtain rfl := Option.some.inj (rt_is.symm.trans e2)
  have hm : ty ∈ (List.range Tryz.prog.types.size).filter fun t => Tryz.prog.rowNamed t [101, 114, 114, 111, 114] := List.mem_filter.2 ⟨List.mem_range.2 e3, e4⟩
  rw [row_is] at hm
  obtain rfl := List.mem_singleton.1 hm
  have hh : typeHandle Tryz.prog 56 = wh 56 := by kernel_rfl
  rw [hh] at e5
  exact e5
theorem sentinel_of {W : World} (h : laidMetH Tryz.prog LD W) {n : String} {nm : String} {d : DataW Unit} {g ti : Nat} (hm : (n, DataW.iface nm d) ∈ LD.filter fun x => x.2.handleName?.isNone) (hg : Tryz.prog.globalNamed n = some g) (ht : (Tryz.prog.globals[g]?).map (·.type) = some ti) (hi : (match Tryz.prog.underlying ti with | some (.interface _) => true | _ => false) = true) :
    ∃ t x, W.var? Tryz.prog n = some #[.iface t x] := by
  have h' : laidMet Tryz.prog (LD.filter fun x => x.2.handleName?.isNone) W ∧ handlesMet Tryz.prog [("errors.errorType", Rows.laid_errors_errorType)] W := h
  obtain ⟨g', t', cs, fuel, p, h1, h2, h3, h4⟩ := Go.Lib.laidMet.reads h'.1 hm
  obtain rfl := Option.some.inj (hg.symm.trans h1)
  obtain rfl := Option.some.inj (ht.symm.trans h2)
  obtain ⟨ms, hi⟩ : ∃ ms, Tryz.prog.underlying ti = some (.interface ms) := by
    split at hi
    · rename_i ms h; exact ⟨ms, h⟩
    · cases hi
  obtain ⟨_, u, v, hc, _⟩ := iface_of_trod hi h4
  refine ⟨u, v, ?_⟩
  rw [h3]
  cases cs with | mk l => simp at hc; rw [hc]
theorem pow10_of {W : World} (h : laidMetH Tryz.prog LD W) : W.var? Tryz.prog "internal/strconv.uint64pow10" = some pow10V.toArray := by
  have h' : laidMet Tryz.prog (LD.filter fun x => x.2.handleName?.isNone) W ∧ handlesMet Tryz.prog [("errors.errorType", Rows.laid_errors_errorType)] W := h
  have hm : ("internal/strconv.uint64pow10", (Go.Lib.tabData .u64 Go.Lib.pow10Tab : DataW Unit)) ∈ LD.filter fun x => x.2.handleName?.isNone := by
    rw [show LD.filter (fun x => x.2.handleName?.isNone) = [_, _, _, _, _, _, _] from rfl]
    exact .tail _ (.tail _ (.head _))
  obtain ⟨g', t', cs, fuel, p, h1, h2, h3, h4⟩ := Go.Lib.laidMet.reads h'.1 hm
  obtain rfl := Option.some.inj (pw_is.symm.trans h1)
  obtain rfl := Option.some.inj ((show (Tryz.prog.globals[6]?).map (·.type) = some 239 by kernel_rfl).symm.trans h2)
  have := Go.Lib.cells_of_tab (t := 239) (e := 222) (n := 20) (by kernel_rfl) (by kernel_rfl) (by kernel_rfl) (by kernel_rfl) h4
  rw [h3]
  cases cs with | mk l => simp at this; rw [this]; rfl
theorem gl_entry {W : World} (h : laidMetH Tryz.prog LD W) (hD : Tryz.prog.globals.size < W.heap.size) : ∃ g ρ h L, HRel Tryz.prog ρ h W ∧ (∀ r row, h.get r = some row → row.own = false) ∧ Has h L ∧ GL g L := by
  obtain ⟨t1, x1, hs⟩ := sentinel_of h (n := "strconv.ErrSyntax") (d := _) (.tail _ (.tail _ (.tail _ (.tail _ (.tail _ (.head _)))))) es_is (ti := 56) (by kernel_rfl) (by kernel_rfl)
  obtain ⟨t2, x2, hr⟩ := sentinel_of h (n := "strconv.ErrRange") (d := _) (.tail _ (.tail _ (.tail _ (.tail _ (.head _))))) er_is (ti := 56) (by kernel_rfl) (by kernel_rfl)
  obtain ⟨he1, he2⟩ := var_glob et_is (errorType_of h)
  obtain ⟨hs1, hs2⟩ := var_glob es_is hs
  obtain ⟨hr1, hr2⟩ := var_glob er_is hr
  obtain ⟨hp1, hp2⟩ := var_glob pw_is (pow10_of h)
  obtain ⟨H0, ro0, A0⟩ := enter0 (P := Tryz.prog) W
  obtain ⟨gd, ρ1, h1, _, H1, ro1, A1⟩ := enterG H0 ro0 A0 DB [] hD (fun q => absurd rfl q)
  obtain ⟨ge, ρ2, h2, _, H2, ro2, A2⟩ := enterG H1 ro1 A1 0 [.iface RT (.agg #[wh 56])] he1 (fun _ => he2)
  obtain ⟨gs, ρ3, h3, _, H3, ro3, A3⟩ := enterG H2 ro2 A2 4 [.iface t1 x1] hs1 (fun _ => hs2)
  obtain ⟨gr, ρ4, h4, _, H4, ro4, A4⟩ := enterG H3 ro3 A3 5 [.iface t2 x2] hr1 (fun _ => hr2)
  obtain ⟨gp, ρ5, h5, _, H5, ro5, A5⟩ := enterG H4 ro4 A4 6 pow10V hp1 (fun _ => hp2)
  exact ⟨⟨gd, ge, gs, gr, gp, .iface t1 x1, .iface t2 x2⟩, ρ5, h5, _, H5, ro5, A5, by simp, by simp, by simp, by simp, by simp, ⟨t1, x1, rfl⟩, ⟨t2, x2, rfl⟩⟩
end Go.Proofs.YtfmgoagkjjmefaaGreatDoor
