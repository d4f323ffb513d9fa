/- Layer 2, plain: what is joined is split as it was (text Wp without what leans on the law). -/
import Derived.Test.YtfmgoagkjjmefaaGreatDoorWm
namespace Go.Proofs.YtfmgoagkjjmefaaGreatDoor
open Go.Am
set_option linter.unusedVariables false
set_option maxRecDepth 20000

theorem hexC_N {n : Nat} (h : n < 16) : hexN (hexC n).toNat = some n := by
  have : ∀ i : Fin 16, hexN (hexC i.val).toNat = some i.val := by decide
  exact this ⟨n, h⟩
theorem mark_own (c : UInt8) (u : List UInt8) : markK (markE c ++ u) = (c, (markE c).length) := by
  have hcl := c.toNat_lt
  unfold markE
  split
  · rename_i h
    simp only [List.cons_append, List.nil_append, markK, escK]
    rw [if_pos (by decide), if_neg (by decide), if_pos trivial, if_pos h]
    rfl
  · rename_i h1
    split
    · rename_i h; subst h
      simp only [List.cons_append, List.nil_append, markK, escK]
      rfl
    · rename_i h2
      split
      · rename_i h; subst h
        simp only [List.cons_append, List.nil_append, markK, escK]
        rfl
      · rename_i h3
        split
        · rename_i h4
          have h34 : c ≠ 34 := fun e => h1 (.inl e)
          have h92 : c ≠ 92 := fun e => h1 (.inr e)
          simp only [List.cons_append, List.nil_append, markK, h4, if_true, if_neg h34, if_neg h92]
          rfl
        · simp only [List.cons_append, List.nil_append, markK, escK]
          rw [if_pos (by decide), if_neg (by decide), if_pos trivial, if_neg (by decide), if_neg (by decide), if_neg (by decide), if_pos trivial]
          simp only [hexK, hexC_N (show c.toNat / 16 < 16 by omega), hexC_N (show c.toNat % 16 < 16 by omega)]
          rw [show 16 * (c.toNat / 16) + c.toNat % 16 = c.toNat by omega, UInt8.ofNat_toNat]
          rfl
theorem marks_own (u : List UInt8) : ∀ w : List UInt8, tk markK (w.flatMap markE ++ 34 :: u) = (w, (w.flatMap markE).length)
  | [] => by
    rw [tk_stop]
    · rfl
    · simp [markK]
  | c :: w => by
    have h := mark_own c (w.flatMap markE ++ 34 :: u)
    have hl := (markE_len c).1
    rw [List.flatMap_cons, List.append_assoc, tk_more mark_sane (by rw [h]; simp only []; omega), h]
    simp only [List.drop_left, marks_own u w, List.length_append]
/-- What may stand behind a word. -/
def endB (u : List UInt8) : Prop := u = [] ∨ ∃ e v, u = e :: v ∧ isBl e = true
theorem plain_own {u : List UInt8} (hu : endB u) : ∀ w : List UInt8, w.all isP = true → tk plainK (w ++ u) = (w, w.length)
  | [], _ => by
    rw [tk_stop]
    · rfl
    · rcases hu with rfl | ⟨e, v, rfl, he⟩
      · rfl
      · simp [plainK, blank_not he]
  | c :: w, h => by
    simp only [List.all_cons, Bool.and_eq_true] at h
    have hk : plainK ((c :: w) ++ u) = (c, 1) := by simp [plainK, h.1]
    rw [tk_more plain_sane (by rw [hk]; simp), hk]
    simp only [List.cons_append, List.drop_succ_cons, List.drop_zero, plain_own hu w h.2, List.length_cons]
    rw [Nat.add_comm]
/-- A word's own form begins neither with a blank nor with a mark of a remark, and tells the word. -/
theorem own_word {u : List UInt8} (hu : endB u) (w : List UInt8) : ∃ c t, ownF w ++ u = c :: t ∧ c ≠ 35 ∧ isBl c = false ∧ wordK (c :: t) = (w, (ownF w).length) ∧ (c :: t).drop (ownF w).length = u := by
  by_cases hp : ownP w = true
  · have hf : ownF w = w := by simp [ownF, hp]
    cases w with
    | nil => cases hp
    | cons c w =>
      simp only [ownP, Bool.and_eq_true] at hp
      obtain ⟨h1, h2⟩ := hp
      have h35 : c ≠ 35 := by simpa using h1
      have hc : isP c = true := by simp only [List.all_cons, Bool.and_eq_true] at h2; exact h2.1
      have hb : isBl c = false := by
        cases hb : isBl c with
        | false => rfl
        | true => rw [blank_not hb] at hc; cases hc
      have h34 : c ≠ 34 := by rintro rfl; cases hc
      refine ⟨c, w ++ u, by rw [hf]; rfl, h35, hb, ?_, by rw [hf]; exact List.drop_left (l₁ := c :: w)⟩
      have := plain_own hu (c :: w) h2
      simp only [wordK, if_neg h34, hf]
      exact this
  · have hf : ownF w = [34] ++ w.flatMap markE ++ [34] := by simp [ownF, hp]
    have hm := marks_own u w
    have e1 : ownF w ++ u = 34 :: (w.flatMap markE ++ 34 :: u) := by rw [hf]; simp
    refine ⟨34, _, e1, by decide, rfl, ?_, by rw [← e1]; exact List.drop_left⟩
    simp only [wordK, if_true, hm, List.drop_left, List.head?_cons]
    rw [hf]; simp
theorem own_dw {u : List UInt8} (hu : endB u) (w : List UInt8) : (ownF w ++ u).dropWhile isBl = ownF w ++ u := by
  obtain ⟨c, t, h1, _, h2, _⟩ := own_word hu w
  rw [h1, dw_not h2]
theorem own_split {u : List UInt8} (hu : endB u) (w : List UInt8) : splitW (ownF w ++ u) = (splitW u).map (w :: ·) := by
  obtain ⟨c, t, h1, h35, hb, hk, hd⟩ := own_word hu w
  unfold splitW
  rw [own_dw hu, h1, ref_more h35 hk (by rw [hd]; exact hu), hd]
  rfl
/-- Words behind the first one. -/
def tails (ws : List (List UInt8)) : List UInt8 := ws.flatMap fun w => 32 :: ownF w
theorem tails_end {u : List UInt8} (hu : endB u) : ∀ ws, endB (tails ws ++ u)
  | [] => hu
  | w :: ws => .inr ⟨32, _, rfl, rfl⟩
theorem splitW_blank {c : UInt8} (h : isBl c = true) (u : List UInt8) : splitW (c :: u) = splitW u := by
  unfold splitW
  rw [List.dropWhile_cons, if_pos h]
theorem tails_split {u : List UInt8} (hu : endB u) : ∀ ws, splitW (tails ws ++ u) = (splitW u).map (ws ++ ·)
  | [] => by simp [tails]
  | w :: ws => by
    have e : tails (w :: ws) ++ u = 32 :: (ownF w ++ (tails ws ++ u)) := by simp [tails]
    rw [e, splitW_blank rfl, own_split (tails_end hu ws), tails_split hu ws]
    cases splitW u <;> simp
/-- The line of words. -/
def lineW : List (List UInt8) → List UInt8
  | [] => []
  | w :: ws => ownF w ++ tails ws
theorem line_split {u : List UInt8} (hu : endB u) : ∀ ws, splitW (lineW ws ++ u) = (splitW u).map (ws ++ ·)
  | [] => by simp [lineW]
  | w :: ws => by
    rw [lineW, List.append_assoc, own_split (tails_end hu ws), tails_split hu ws]
    cases splitW u <;> simp
theorem jn_rest : ∀ (ws : List (List UInt8)) (acc s : List UInt8), jn acc false ws = some s → s = acc ++ tails ws ∧ (acc.length ≤ 400 → s.length ≤ 400)
  | [], acc, s, h => by simp [jn] at h; subst h; simp [tails]
  | w :: ws, acc, s, h => by
    simp only [jn, Bool.false_eq_true, if_false] at h
    split at h
    · rename_i hl
      obtain ⟨h1, h2⟩ := jn_rest ws _ _ h
      refine ⟨?_, fun _ => h2 hl⟩
      rw [h1]; simp [tails]
    · cases h
theorem joinW_eq {ws : List (List UInt8)} {s : List UInt8} (h : joinW ws = some s) : s = lineW ws ∧ s.length ≤ 400 := by
  cases ws with
  | nil => simp [joinW, jn] at h; subst h; simp [lineW]
  | cons w ws =>
    unfold joinW at h
    simp only [jn, if_true, List.nil_append] at h
    split at h
    · rename_i hl
      obtain ⟨h1, h2⟩ := jn_rest ws _ _ h
      exact ⟨h1, h2 hl⟩
    · cases h
theorem splitW_nil : splitW [] = some [] := rfl
/-- What is joined is split as it was. -/
theorem joined_split {ws : List (List UInt8)} {s : List UInt8} (h : joinW ws = some s) : splitW s = some ws := by
  obtain ⟨rfl, _⟩ := joinW_eq h
  have := line_split (u := []) (.inl rfl) ws
  rw [List.append_nil] at this
  rw [this, splitW_nil]; simp
/-! ### Bytes of a line -/
theorem hexC_S {n : Nat} (h : n < 16) : isS (hexC n) = true := by
  have : ∀ i : Fin 16, isS (hexC i.val) = true := by decide
  exact this ⟨n, h⟩
theorem markE_S (c : UInt8) : (markE c).all isS = true := by
  have hcl := c.toNat_lt
  unfold markE
  split
  · rename_i h; rcases h with rfl | rfl <;> decide
  · split
    · decide
    · split
      · decide
      · split
        · rename_i h; simp [h]
        · have h1 := hexC_S (show c.toNat / 16 < 16 by omega)
          have h2 := hexC_S (show c.toNat % 16 < 16 by omega)
          simp only [List.all_cons, List.all_nil, h1, h2]; decide
theorem isP_S {c : UInt8} (h : isP c = true) : isS c = true := by
  simp only [isP, Bool.and_eq_true, decide_eq_true_eq] at h
  simp only [isS, Bool.and_eq_true, decide_eq_true_eq]; omega
theorem ownF_S (w : List UInt8) : (ownF w).all isS = true := by
  unfold ownF
  split
  · rename_i h
    cases w with
    | nil => cases h
    | cons c w =>
      simp only [ownP, Bool.and_eq_true] at h
      rw [List.all_eq_true] at h ⊢
      exact fun x hx => isP_S (h.2 x hx)
  · rw [List.all_eq_true]
    intro x hx
    simp only [List.mem_append, List.mem_flatMap, List.mem_singleton] at hx
    rcases hx with (rfl | ⟨c, _, hx⟩) | rfl
    · decide
    · exact List.all_eq_true.1 (markE_S c) x hx
    · decide
theorem tails_S (ws : List (List UInt8)) : (tails ws).all isS = true := by
  rw [List.all_eq_true]
  intro x hx
  simp only [tails, List.mem_flatMap, List.mem_cons] at hx
  obtain ⟨w, _, rfl | hx⟩ := hx
  · decide
  · exact List.all_eq_true.1 (ownF_S w) x hx
theorem lineW_S (ws : List (List UInt8)) : (lineW ws).all isS = true := by
  cases ws with
  | nil => rfl
  | cons w ws => rw [lineW, List.all_append, ownF_S, tails_S]; rfl
theorem lineW_no10 (ws : List (List UInt8)) : 10 ∉ lineW ws := fun h => by
  have := List.all_eq_true.1 (lineW_S ws) 10 h
  cases this
/-! ### Lines -/
end Go.Proofs.YtfmgoagkjjmefaaGreatDoor
