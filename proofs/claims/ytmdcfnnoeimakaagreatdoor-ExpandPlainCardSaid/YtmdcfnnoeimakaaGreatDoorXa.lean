/- Layer 13, plain: variables put into a text. -/
import Derived.KernelRfl
namespace Go.Xp
set_option linter.unusedVariables false
abbrev B := List UInt8
def lowB (c : UInt8) : Bool := decide (97 ≤ c.toNat) && decide (c.toNat ≤ 122)
def digB (c : UInt8) : Bool := decide (48 ≤ c.toNat) && decide (c.toNat ≤ 57)
def ofN (c : UInt8) : Bool := lowB c || (digB c || (c == 45 || c == 95))
/-- A name. -/
def nm (s : B) : Bool := decide (s.length ≤ 24) && ((match s with | [] => false | c :: _ => lowB c) && s.all ofN)
/-- What stands behind a $: none, if it is wrong; a $ again; or a name. -/
def mark : B → Option (Option B × B)
  | [] => none
  | c :: t =>
    if c = 36 then some (none, t)
    else if c = 123 then
      let n := t.takeWhile (· != 125)
      if nm n && decide (n.length < t.length) then some (some n, t.drop (n.length + 1)) else none
    else
      let n := (c :: t).takeWhile ofN
      if nm n then some (some n, (c :: t).drop n.length) else none
theorem mark_len {s : B} {x : Option B} {b : B} (h : mark s = some (x, b)) : b.length < s.length := by
  cases s with
  | nil => cases h
  | cons c t =>
    simp only [mark] at h
    split at h
    · simp only [Option.some.injEq, Prod.mk.injEq] at h
      rw [← h.2]; simp
    · split at h
      · split at h
        · simp only [Option.some.injEq, Prod.mk.injEq] at h
          rw [← h.2]; simp; omega
        · cases h
      · split at h
        · rename_i hn
          simp only [Option.some.injEq, Prod.mk.injEq] at h
          rw [← h.2, List.length_drop]
          have : 0 < ((c :: t).takeWhile ofN).length := by
            cases hq : (c :: t).takeWhile ofN with
            | nil => rw [hq] at hn; simp [nm] at hn
            | cons => simp
          simp at this ⊢; omega
        · cases h
/-- All that comes of a text; 4, 63: what is wrong. -/
def sub (look : B → Option B) : Nat → B → Except Nat B
  | 0, _ => .ok []
  | n + 1, s =>
    let p := s.takeWhile (· != 36)
    match s.dropWhile (· != 36) with
    | [] => .ok p
    | _ :: t => match mark t with
      | none => .error 4
      | some (none, b) => match sub look n b with
        | .ok o => .ok (p ++ 36 :: o)
        | .error e => .error e
      | some (some x, b) => match look x with
        | none => .error 63
        | some v => match sub look n b with
          | .ok o => .ok (p ++ (v ++ o))
          | .error e => .error e
theorem sub_more (look : B → Option B) : ∀ (n m : Nat) (s : B), s.length < n → s.length < m → sub look n s = sub look m s
  | 0, _, _, h, _ => by omega
  | _, 0, _, _, h => by omega
  | n + 1, m + 1, s, h1, h2 => by
    rw [sub, sub]
    have hd : (s.dropWhile (· != 36)).length ≤ s.length := by
      have := congrArg List.length (List.takeWhile_append_dropWhile (p := (· != 36)) (l := s))
      rw [List.length_append] at this; omega
    cases h : s.dropWhile (· != 36) with
    | nil => rfl
    | cons c t =>
      rw [h] at hd
      simp only []
      cases hm : mark t with
      | none => rfl
      | some x =>
        obtain ⟨x, b⟩ := x
        have hb := mark_len hm
        simp at hd
        have e := sub_more look n m b (by omega) (by omega)
        cases x with
        | none => simp only []; rw [e]
        | some x => simp only []; rw [e]
/-- Variables put into a text. -/
def subst (look : B → Option B) (s : B) : Except Nat B := match sub look (s.length + 1) s with
  | .error e => .error e
  | .ok o => if 400 < o.length then .error 40 else .ok o
/-- The value of the last variable of a name. -/
def look (l : List (B × B)) (n : B) : Option B := (l.reverse.find? fun x => decide (x.1 = n)).map (·.2)
/-! ### As the document goes: name by name. -/
/-- The letters of a name, as far as they go. -/
def run : B → B
  | [] => []
  | c :: t => if lowB c then (c :: t).takeWhile ofN else []
theorem take_all {p : UInt8 → Bool} : ∀ {s t : B}, s.all p = true → (∀ c, t.head? = some c → p c = false) → (s ++ t).takeWhile p = s
  | [], t, _, h => by
    cases t with
    | nil => rfl
    | cons c t => simp [h c rfl]
  | c :: s, t, ha, h => by
    simp at ha
    simp [ha.1]
    exact take_all (by simpa using ha.2) h
theorem lowof {c : UInt8} (h : lowB c = true) : ofN c = true := by simp [ofN, h]
theorem nm_head {c : UInt8} {s : B} (h : nm (c :: s) = true) : lowB c = true ∧ (c :: s).all ofN = true ∧ (c :: s).length ≤ 24 := by
  unfold nm at h
  rw [Bool.and_eq_true, Bool.and_eq_true] at h
  exact ⟨h.2.1, h.2.2, by simpa using h.1⟩
theorem run_nm {s : B} (h : run s ≠ []) (hl : (run s).length ≤ 24) : nm (run s) = true := by
  cases s with
  | nil => exact absurd rfl h
  | cons c t =>
    rw [run] at h hl ⊢
    by_cases hc : lowB c = true
    · rw [if_pos hc] at hl ⊢
      have ha : ((c :: t).takeWhile ofN).all ofN = true := by
        rw [List.all_eq_true]
        intro x hx
        have := List.all_takeWhile (p := ofN) (l := c :: t)
        exact List.all_eq_true.1 this x hx
      rw [List.takeWhile_cons, if_pos (lowof hc)] at hl ha ⊢
      unfold nm
      rw [ha]
      simp only [hc, Bool.and_true]
      exact decide_eq_true hl
    · rw [if_neg hc] at h; exact absurd rfl h
/-- Behind a $ that no $ follows, and no brace. -/
theorem mark_plain {c : UInt8} {t : B} (h1 : c ≠ 36) (h2 : c ≠ 123) : mark (c :: t) = if run (c :: t) = [] ∨ 24 < (run (c :: t)).length then none else some (some (run (c :: t)), (c :: t).drop (run (c :: t)).length) := by
  rw [mark, if_neg h1, if_neg h2]
  simp only []
  by_cases hc : lowB c = true
  · have hr : run (c :: t) = (c :: t).takeWhile ofN := by rw [run, if_pos hc]
    rw [hr]
    by_cases hn : nm ((c :: t).takeWhile ofN) = true
    · rw [if_pos hn, if_neg]
      rw [List.takeWhile_cons, if_pos (lowof hc)] at hn ⊢
      have := (nm_head hn).2.2
      simp at this ⊢; omega
    · rw [if_neg hn, if_pos]
      rcases Nat.lt_or_ge 24 ((c :: t).takeWhile ofN).length with h | h
      · exact .inr h
      · exact absurd (by have := run_nm (s := c :: t) (by rw [hr, List.takeWhile_cons, if_pos (lowof hc)]; simp) (by rw [hr]; exact h); rwa [hr] at this) hn
  · have hr : run (c :: t) = [] := by rw [run, if_neg hc]
    rw [hr, if_neg, if_pos (.inl rfl)]
    intro hn
    cases hq : (c :: t).takeWhile ofN with
    | nil => rw [hq] at hn; simp [nm] at hn
    | cons d q =>
      rw [hq] at hn
      have := (nm_head hn).1
      rw [List.takeWhile_cons] at hq
      split at hq
      · obtain ⟨rfl, _⟩ := List.cons.inj hq
        exact hc this
      · cases hq
theorem end_n : ofN 125 = false := by decide
/-- Between braces. -/
theorem mark_brace {t : B} : mark (123 :: t) = if run t = [] ∨ 24 < (run t).length ∨ t[(run t).length]? ≠ some 125 then none else some (some (run t), t.drop ((run t).length + 1)) := by
  rw [mark, if_neg (by decide), if_pos rfl]
  simp only []
  by_cases hn : nm (t.takeWhile (· != 125)) = true ∧ (t.takeWhile (· != 125)).length < t.length
  · obtain ⟨hn, hl⟩ := hn
    rw [if_pos (by simp only [hn, Bool.true_and]; exact decide_eq_true hl)]
    have hsplit := List.takeWhile_append_dropWhile (p := fun c : UInt8 => c != 125) (l := t)
    cases hd : t.dropWhile (· != 125) with
    | nil =>
      rw [hd, List.append_nil] at hsplit
      rw [hsplit] at hl; omega
    | cons d r =>
      have hd125 : d = 125 := by
        have h := List.head?_dropWhile_not (p := fun c : UInt8 => c != 125) (l := t)
        rw [hd] at h
        simpa using h
      subst hd125
      cases hq : t.takeWhile (· != 125) with
      | nil => rw [hq] at hn; simp [nm] at hn
      | cons c q =>
        rw [hq] at hn hsplit
        rw [hd] at hsplit
        obtain ⟨g1, g2, g3⟩ := nm_head hn
        have hr : run t = c :: q := by
          rw [← hsplit, List.cons_append, run, if_pos g1, ← List.cons_append]
          exact take_all g2 (fun x hx => by simp at hx; rw [← hx]; exact end_n)
        rw [hr, if_neg]
        rw [not_or, not_or]
        refine ⟨by simp, by omega, ?_⟩
        rw [← hsplit]
        simp
  · rw [if_neg (by rw [Bool.and_eq_true]; intro ⟨a, b⟩; exact hn ⟨a, of_decide_eq_true b⟩), if_pos]
    rcases Classical.em (run t = []) with h | h0
    · exact .inl h
    rcases Nat.lt_or_ge 24 (run t).length with h | h1
    · exact .inr (.inl h)
    refine .inr (.inr fun h2 => hn ?_)
    have hnm := run_nm h0 h1
    have hsplit : t = run t ++ 125 :: t.drop ((run t).length + 1) := by
      have hp : run t = t.take (run t).length := by
        cases t with
        | nil => rfl
        | cons c t =>
          rw [run] at h0 ⊢
          split
          · exact List.prefix_iff_eq_take.1 (List.takeWhile_prefix _)
          · rename_i hc; rw [if_neg hc] at h0; exact absurd rfl h0
      have hlt : (run t).length < t.length := (List.getElem?_eq_some_iff.1 h2).1
      have h3 : t.drop (run t).length = 125 :: t.drop ((run t).length + 1) := by
        rw [List.drop_eq_getElem_cons hlt]
        congr 1
        exact (List.getElem?_eq_some_iff.1 h2).2
      conv => lhs; rw [← List.take_append_drop (run t).length t, ← hp, h3]
    have htw : t.takeWhile (· != 125) = run t := by
      rw [hsplit]
      have hcalc := take_all (p := fun c : UInt8 => c != 125) (s := run t) (t := 125 :: t.drop ((run t).length + 1)) (by
        rw [List.all_eq_true]
        intro x hx
        have hx2 : ofN x = true := by
          cases hrt : run t with
          | nil => rw [hrt] at hx; cases hx
          | cons a q =>
            rw [hrt] at hnm hx
            exact List.all_eq_true.1 (nm_head hnm).2.1 x hx
        simp only [bne_iff_ne, ne_eq]
        rintro rfl
        rw [end_n] at hx2; cases hx2) (fun c hc => by simp at hc; rw [← hc]; rfl)
      rw [hcalc, ← hsplit]
    rw [htw]
    exact ⟨hnm, (List.getElem?_eq_some_iff.1 h2).1⟩
end Go.Xp
