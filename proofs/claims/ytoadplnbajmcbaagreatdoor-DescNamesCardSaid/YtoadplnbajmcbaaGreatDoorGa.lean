/- Layer 10, plain: what a pattern matches. -/
namespace Go.Proofs.YtoadplnbajmcbaaGreatDoor
set_option linter.unusedVariables false

/-- A piece: may it stand for many bytes, and for which. -/
abbrev Pc := Bool × (UInt8 → Bool)
def noSl (c : UInt8) : Bool := c != 47
/-- Many bytes of which each may be, then what f tells. -/
def spanM (ok : UInt8 → Bool) (f : List UInt8 → Bool) : List UInt8 → Bool
  | [] => f []
  | c :: s => f (c :: s) || (ok c && spanM ok f s)
theorem spanM_iff {ok : UInt8 → Bool} {f : List UInt8 → Bool} : ∀ {s : List UInt8}, spanM ok f s = true ↔ ∃ a b, s = a ++ b ∧ a.all ok = true ∧ f b = true
  | [] => by
    unfold spanM
    constructor
    · intro h; exact ⟨[], [], rfl, rfl, h⟩
    · rintro ⟨a, b, e, _, h⟩
      obtain ⟨rfl, rfl⟩ := List.append_eq_nil_iff.1 e.symm
      exact h
  | c :: s => by
    unfold spanM
    rw [Bool.or_eq_true, Bool.and_eq_true, spanM_iff]
    constructor
    · rintro (h | ⟨hc, a, b, rfl, ha, hb⟩)
      · exact ⟨[], _, rfl, rfl, h⟩
      · exact ⟨c :: a, b, rfl, by simp [hc] at ha ⊢; exact ha, hb⟩
    · rintro ⟨a, b, e, ha, hb⟩
      cases a with
      | nil => simp at e; subst e; exact .inl hb
      | cons d a =>
        simp at e
        obtain ⟨rfl, rfl⟩ := e
        simp at ha
        exact .inr ⟨ha.1, a, b, rfl, by simpa using ha.2, hb⟩
/-- Do these pieces stand for a text? -/
def ms : List Pc → List UInt8 → Bool
  | [], s => s.isEmpty
  | (true, ok) :: p, s => spanM ok (ms p) s
  | (false, _) :: _, [] => false
  | (false, ok) :: p, c :: s => ok c && ms p s
theorem ms_append : ∀ {p q : List Pc} {s : List UInt8}, ms (p ++ q) s = true ↔ ∃ a b, s = a ++ b ∧ ms p a = true ∧ ms q b = true
  | [], q, s => by
    constructor
    · intro h; exact ⟨[], s, rfl, rfl, h⟩
    · rintro ⟨a, b, rfl, ha, hb⟩
      have : a = [] := by simpa [ms] using ha
      subst this; exact hb
  | (true, ok) :: p, q, s => by
    rw [List.cons_append]
    show spanM ok (ms (p ++ q)) s = true ↔ _
    rw [spanM_iff]
    constructor
    · rintro ⟨a, b, rfl, ha, hb⟩
      obtain ⟨c, d, rfl, hc, hd⟩ := ms_append.1 hb
      exact ⟨a ++ c, d, by simp, spanM_iff.2 ⟨a, c, rfl, ha, hc⟩, hd⟩
    · rintro ⟨x, d, rfl, hx, hd⟩
      obtain ⟨a, c, rfl, ha, hc⟩ := spanM_iff.1 hx
      exact ⟨a, c ++ d, by simp, ha, ms_append.2 ⟨c, d, rfl, hc, hd⟩⟩
  | (false, ok) :: p, q, [] => by
    constructor
    · intro h; cases h
    · rintro ⟨a, b, e, ha, hb⟩
      obtain ⟨rfl, rfl⟩ := List.append_eq_nil_iff.1 e.symm
      cases ha
  | (false, ok) :: p, q, c :: s => by
    show (ok c && ms (p ++ q) s) = true ↔ _
    rw [Bool.and_eq_true, ms_append]
    constructor
    · rintro ⟨hc, a, b, rfl, ha, hb⟩
      exact ⟨c :: a, b, rfl, by show (ok c && ms p a) = true; rw [hc, ha]; rfl, hb⟩
    · rintro ⟨a, b, e, ha, hb⟩
      cases a with
      | nil => cases ha
      | cons d a =>
        simp at e
        obtain ⟨rfl, rfl⟩ := e
        have ha : (ok c && ms p a) = true := ha
        rw [Bool.and_eq_true] at ha
        exact ⟨ha.1, a, b, rfl, ha.2, hb⟩
/-- The piece of a piece's text. -/
def pcOf (w : List UInt8) : Pc :=
  if w = [42, 42] then (true, fun _ => true) else if w = [42] then (true, noSl) else if w = [63] then (false, noSl) else (false, fun c => c == w.head?.getD 0)
/-- How many bytes the first piece has. -/
def pSize (w : List UInt8) : Nat := if [42, 42] <+: w then 2 else 1
theorem pSize_le {c : UInt8} {w : List UInt8} : 1 ≤ pSize (c :: w) ∧ pSize (c :: w) ≤ (c :: w).length := by
  unfold pSize
  split
  · rename_i h; have := h.length_le; simp at this ⊢; omega
  · simp
/-- A pattern's pieces. -/
def ps (w : List UInt8) : List Pc :=
  if h : w = [] then [] else pcOf (w.take (pSize w)) :: ps (w.drop (pSize w))
termination_by w.length
decreasing_by
  cases w with
  | nil => exact absurd rfl h
  | cons c w => have := pSize_le (c := c) (w := w); simp; simp at this; omega
theorem ps_nil : ps [] = [] := by unfold ps; rfl
theorem ps_cons {w : List UInt8} (h : w ≠ []) : ps w = pcOf (w.take (pSize w)) :: ps (w.drop (pSize w)) := by
  conv => lhs; unfold ps
  rw [dif_neg h]
theorem pSize_two (r : List UInt8) : pSize (42 :: 42 :: r) = 2 := by unfold pSize; rw [if_pos]; exact ⟨r, rfl⟩
theorem pSize_one {w : List UInt8} (h : ¬ [42, 42] <+: w) : pSize w = 1 := by unfold pSize; rw [if_neg h]
theorem ps_two (r : List UInt8) : ps (42 :: 42 :: r) = (true, fun _ => true) :: ps r := by
  rw [ps_cons (by simp), pSize_two]; rfl
theorem ps_star {r : List UInt8} (h : r.head? ≠ some 42) : ps (42 :: r) = (true, noSl) :: ps r := by
  rw [ps_cons (by simp), pSize_one]
  · rfl
  · rintro ⟨t, ht⟩
    simp at ht
    rw [← ht] at h; simp at h
theorem ps_quest (r : List UInt8) : ps (63 :: r) = (false, noSl) :: ps r := by
  rw [ps_cons (by simp), pSize_one]
  · rfl
  · rintro ⟨t, ht⟩; simp at ht
theorem ps_else {c : UInt8} (r : List UInt8) (h1 : c ≠ 42) (h2 : c ≠ 63) : ps (c :: r) = (false, fun d => d == c) :: ps r := by
  rw [ps_cons (by simp), pSize_one]
  · simp [pcOf, h1, h2]
  · rintro ⟨t, ht⟩; simp at ht; exact h1 ht.1.symm
/-- Patterns put together have the pieces put together, where no two stars meet. -/
theorem ps_append (n : Nat) : ∀ {p q : List UInt8}, p.length ≤ n → (p.getLast? = some 42 → q.head? ≠ some 42) → ps (p ++ q) = ps p ++ ps q := by
  induction n with
  | zero => intro p q hn _; have : p = [] := List.eq_nil_of_length_eq_zero (by omega); subst this; simp [ps_nil]
  | succ n ih =>
    intro p q hn h
    match p, hn, h with
    | [], _, _ => simp [ps_nil]
    | [c], hn, h =>
      by_cases h1 : c = 42
      · subst h1
        have hq := h rfl
        show ps (42 :: q) = _
        rw [ps_star hq, ps_star (by simp), ps_nil]; rfl
      · by_cases h2 : c = 63
        · subst h2
          show ps (63 :: q) = _
          rw [ps_quest, ps_quest, ps_nil]; rfl
        · show ps (c :: q) = _
          rw [ps_else _ h1 h2, ps_else _ h1 h2, ps_nil]; rfl
    | c :: d :: r, hn, h =>
      have hlast : (d :: r).getLast? = some 42 → q.head? ≠ some 42 := by
        intro h'; apply h; rw [List.getLast?_cons_cons]; exact h'
      have hd : ps (d :: r ++ q) = ps (d :: r) ++ ps q := ih (by simp at hn ⊢; omega) hlast
      by_cases h1 : c = 42
      · subst h1
        by_cases h3 : d = 42
        · subst h3
          have hr : ps (r ++ q) = ps r ++ ps q := ih (by simp at hn ⊢; omega) (by
            intro h'
            cases r with
            | nil => simp at h'
            | cons e r => apply hlast; rw [List.getLast?_cons_cons]; exact h')
          show ps (42 :: 42 :: (r ++ q)) = _
          rw [ps_two, ps_two, hr]; rfl
        · show ps (42 :: (d :: r ++ q)) = _
          rw [ps_star (by simpa using h3), ps_star (by simpa using h3), hd]; rfl
      · by_cases h2 : c = 63
        · subst h2
          show ps (63 :: (d :: r ++ q)) = _
          rw [ps_quest, ps_quest, hd]; rfl
        · show ps (c :: (d :: r ++ q)) = _
          rw [ps_else _ h1 h2, ps_else _ h1 h2, hd]; rfl

/-- Is it a pattern? -/
def shown (c : UInt8) : Bool := decide (33 ≤ c.toNat ∧ c.toNat ≤ 126)
def chk (p : List UInt8) : Int := if 64 < p.length then 40 else if p = [] then 4 else if p.all shown then 0 else 4
/-- Does the pattern match the text? -/
def mt (p s : List UInt8) : Bool := decide (chk p = 0) && ms (ps p) s

/-- The row behind one more piece. -/
theorem ms_snoc_zero {P : List Pc} {ok : UInt8 → Bool} (s : List UInt8) : ms (P ++ [(false, ok)]) (s.take 0) = false := by
  rw [Bool.eq_false_iff]
  intro h
  obtain ⟨a, b, e, _, hb⟩ := ms_append.1 h
  simp at e
  rw [e.2] at hb; cases hb
theorem take_snoc {s : List UInt8} {k : Nat} {c : UInt8} (h : s[k]? = some c) : s.take (k + 1) = s.take k ++ [c] := by
  rw [List.take_add_one, h]; rfl
theorem ms_snoc {P : List Pc} {ok : UInt8 → Bool} {s : List UInt8} {k : Nat} {c : UInt8} (h : s[k]? = some c) : ms (P ++ [(false, ok)]) (s.take (k + 1)) = (ms P (s.take k) && ok c) := by
  rw [Bool.eq_iff_iff, Bool.and_eq_true, take_snoc h]
  constructor
  · intro hm
    obtain ⟨a, b, e, ha, hb⟩ := ms_append.1 hm
    match b, hb with
    | [], hb => cases hb
    | d :: b, hb =>
      have hb : (ok d && ms [] b) = true := hb
      rw [Bool.and_eq_true] at hb
      have : b = [] := by simpa [ms] using hb.2
      subst this
      have e2 := List.append_inj' e rfl
      simp at e2
      obtain ⟨rfl, rfl⟩ := e2
      exact ⟨ha, hb.1⟩
  · rintro ⟨h1, h2⟩
    exact ms_append.2 ⟨_, [c], rfl, h1, by simp [ms, h2]⟩
theorem ms_many {P : List Pc} {ok : UInt8 → Bool} {s : List UInt8} : ms (P ++ [(true, ok)]) s = true ↔ ∃ a b, s = a ++ b ∧ ms P a = true ∧ b.all ok = true := by
  rw [ms_append]
  constructor
  · rintro ⟨a, b, e, ha, hb⟩
    have hb : spanM ok (ms []) b = true := hb
    obtain ⟨x, y, rfl, hx, hy⟩ := spanM_iff.1 hb
    have : y = [] := by simpa [ms] using hy
    subst this
    exact ⟨a, x, by simpa using e, ha, hx⟩
  · rintro ⟨a, b, e, ha, hb⟩
    exact ⟨a, b, e, ha, spanM_iff.2 ⟨b, [], by simp, hb, rfl⟩⟩
theorem ms_many_zero {P : List Pc} {ok : UInt8 → Bool} (s : List UInt8) : ms (P ++ [(true, ok)]) (s.take 0) = ms P (s.take 0) := by
  rw [Bool.eq_iff_iff, ms_many]
  constructor
  · rintro ⟨a, b, e, ha, _⟩
    simp at e
    obtain ⟨rfl, rfl⟩ := e
    simpa using ha
  · intro h; exact ⟨[], [], by simp, by simpa using h, rfl⟩
theorem ms_many_snoc {P : List Pc} {ok : UInt8 → Bool} {s : List UInt8} {k : Nat} {c : UInt8} (h : s[k]? = some c) :
    ms (P ++ [(true, ok)]) (s.take (k + 1)) = (ms P (s.take (k + 1)) || (ms (P ++ [(true, ok)]) (s.take k) && ok c)) := by
  rw [Bool.eq_iff_iff, Bool.or_eq_true, Bool.and_eq_true, ms_many, ms_many, take_snoc h]
  constructor
  · rintro ⟨a, b, e, ha, hb⟩
    rcases List.eq_nil_or_concat b with rfl | ⟨b, d, rfl⟩
    · left; rw [e]; simpa using ha
    · right
      rw [List.concat_eq_append, ← List.append_assoc] at e
      have e2 := List.append_inj' e rfl
      simp at e2
      obtain ⟨e2, rfl⟩ := e2
      simp at hb
      exact ⟨⟨a, b, e2, ha, by simpa using hb.1⟩, hb.2⟩
  · rintro (h1 | ⟨⟨a, b, e, ha, hb⟩, hc⟩)
    · exact ⟨_, [], by simp, h1, rfl⟩
    · exact ⟨a, b ++ [c], by rw [e]; simp, ha, by simp [hc] at hb ⊢; exact hb⟩
end Go.Proofs.YtoadplnbajmcbaaGreatDoor
