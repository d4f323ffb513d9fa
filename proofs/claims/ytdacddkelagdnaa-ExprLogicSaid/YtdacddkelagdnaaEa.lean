/- Layer 11, plain: what a condition is, how it is told from words, whether it holds, its texts. -/
import Derived.Test.YtdacddkelagdnaaGa
namespace Go.Proofs.Ytdacddkelagdnaa

abbrev W := List UInt8
def wOr : W := [111, 114]
def wAnd : W := [97, 110, 100]
def wNot : W := [110, 111, 116]
def wOpen : W := [40]
def wClose : W := [41]
def wSame : W := [61, 61]
def wOther : W := [33, 61]
def wLike : W := [126]
/-- A condition, a part, a term: one kind of tree; rows are made of nil and cons. -/
inductive X where
  | cmp (l : W) (o : Nat) (r : W)
  | neg (x : X)
  | par (c : X)
  | nil
  | cons (h t : X)
/-- As what a tree stands. -/
inductive Md where
  | t | p | c
/-- Which operator a word is: 0: none. -/
def opN (w : W) : Nat := if w = wSame then 1 else if w = wOther then 2 else if w = wLike then 3 else 0
def holdB (l : W) (o : Nat) (r : W) : Bool := if o = 1 then decide (l = r) else if o = 2 then !decide (l = r) else if o = 3 then mt r l else false
/-- Does it hold? -/
def ev : Md → X → Bool
  | .t, .cmp l o r => holdB l o r
  | .t, .neg x => !ev .t x
  | .t, .par c => ev .c c
  | .p, .cons h t => ev .t h && ev .p t
  | .p, .nil => true
  | .c, .cons h t => ev .p h || ev .c t
  | _, _ => false
/-- The texts of its comparisons. -/
def tx : Md → X → List W
  | .t, .cmp l _ r => [l, r]
  | .t, .neg x => tx .t x
  | .t, .par c => tx .c c
  | .p, .cons h t => tx .t h ++ tx .p t
  | .c, .cons h t => tx .p h ++ tx .c t
  | _, _ => []
/-- What comes of words: a refusal, or a tree and the words that are left. -/
inductive Rs where
  | err (e : Nat)
  | ok (x : X) (r : List W)
/-- A comparison that stands first. -/
def cmpAt : List W → Option (W × Nat × W × List W)
  | a :: o :: b :: r => if opN o = 0 then none else some (a, opN o, b, r)
  | _ => none
def Rs.bind : Rs → (X → List W → Rs) → Rs
  | .err e, _ => .err e
  | .ok x r, f => f x r
/-- What comes of words within d nots and brackets. -/
def pr : Nat → Md → Nat → List W → Rs
  | 0, _, _, _ => .err 0
  | n + 1, .t, d, w => match cmpAt w with
    | some (a, o, b, r) => .ok (.cmp a o b) r
    | none => match w with
      | [] => .err 4
      | x :: r =>
        if x = wNot then (if d = 64 then .err 65 else (pr n .t (d + 1) r).bind fun t r' => .ok (.neg t) r')
        else if x = wOpen then (if d = 64 then .err 65 else (pr n .c (d + 1) r).bind fun c r' => match r' with
          | [] => .err 4
          | y :: r'' => if y = wClose then .ok (.par c) r'' else .err 4)
        else .err 4
  | n + 1, .p, d, w => (pr n .t d w).bind fun t r => match r with
    | [] => .ok (.cons t .nil) []
    | x :: r' => if x = wAnd then (pr n .p d r').bind fun p r'' => .ok (.cons t p) r'' else .ok (.cons t .nil) (x :: r')
  | n + 1, .c, d, w => (pr n .p d w).bind fun p r => match r with
    | [] => .ok (.cons p .nil) []
    | x :: r' => if x = wOr then (pr n .c d r').bind fun c r'' => .ok (.cons p c) r'' else .ok (.cons p .nil) (x :: r')
/-- As much as it takes. -/
def Md.n : Md → Nat
  | .t => 1
  | .p => 2
  | .c => 3
def fuel (m : Md) (w : List W) : Nat := 3 * w.length + m.n
/-- The condition of words. -/
def parse (w : List W) : Rs := (pr (fuel .c w) .c 0 w).bind fun c r => match r with
  | [] => .ok c []
  | _ :: _ => .err 4
theorem cmpAt_len {w r : List W} {a b : W} {o : Nat} (h : cmpAt w = some (a, o, b, r)) : w.length = r.length + 3 := by
  unfold cmpAt at h
  split at h
  · split at h
    · cases h
    · simp only [Option.some.injEq, Prod.mk.injEq] at h
      obtain ⟨_, _, _, rfl⟩ := h
      simp
  · cases h
/-- What is left is shorter. -/
theorem pr_lt : ∀ {n : Nat} {m : Md} {d : Nat} {w : List W} {x : X} {r : List W}, pr n m d w = .ok x r → r.length < w.length
  | 0, _, _, _, _, _, h => by cases h
  | n + 1, .t, d, w, x, r, h => by
    unfold pr at h
    split at h
    · rename_i a o b r' hc
      have := cmpAt_len hc
      cases h; omega
    · split at h
      · cases h
      · rename_i y r0 _
        split at h
        · split at h
          · cases h
          · cases hq : pr n .t (d + 1) r0 with
            | err e => rw [hq] at h; cases h
            | ok t r' =>
              rw [hq] at h
              have := pr_lt hq
              cases h
              simp; omega
        · split at h
          · split at h
            · cases h
            · cases hq : pr n .c (d + 1) r0 with
              | err e => rw [hq] at h; cases h
              | ok t r' =>
                rw [hq] at h
                have := pr_lt hq
                simp only [Rs.bind] at h
                split at h
                · cases h
                · split at h
                  · cases h; simp at this ⊢; omega
                  · cases h
          · cases h
  | n + 1, .p, d, w, x, r, h => by
    unfold pr at h
    cases hq : pr n .t d w with
    | err e => rw [hq] at h; cases h
    | ok t r' =>
      rw [hq] at h
      have h1 := pr_lt hq
      simp only [Rs.bind] at h
      split at h
      · cases h; simpa using h1
      · split at h
        · rename_i r2 _
          cases hq2 : pr n .p d r2 with
          | err e => rw [hq2] at h; cases h
          | ok t2 r3 =>
            rw [hq2] at h
            have h2 := pr_lt hq2
            cases h
            simp at h1; omega
        · cases h; exact h1
  | n + 1, .c, d, w, x, r, h => by
    unfold pr at h
    cases hq : pr n .p d w with
    | err e => rw [hq] at h; cases h
    | ok t r' =>
      rw [hq] at h
      have h1 := pr_lt hq
      simp only [Rs.bind] at h
      split at h
      · cases h; simpa using h1
      · split at h
        · rename_i r2 _
          cases hq2 : pr n .c d r2 with
          | err e => rw [hq2] at h; cases h
          | ok t2 r3 =>
            rw [hq2] at h
            have h2 := pr_lt hq2
            cases h
            simp at h1; omega
        · cases h; exact h1
/-- Words of which a tree is told, whatever the depth. -/
inductive Sd : Md → List W → X → List W → Prop where
  | cmp {a o b : W} {r : List W} (h : opN o ≠ 0) : Sd .t (a :: o :: b :: r) (.cmp a (opN o) b) r
  | neg {w : List W} {t : X} {r : List W} (h : cmpAt (wNot :: w) = none) (k : Sd .t w t r) : Sd .t (wNot :: w) (.neg t) r
  | par {w : List W} {c : X} {r : List W} (h : cmpAt (wOpen :: w) = none) (k : Sd .c w c (wClose :: r)) : Sd .t (wOpen :: w) (.par c) r
  | p1 {w : List W} {t : X} {r : List W} (k : Sd .t w t r) (h : r.head? ≠ some wAnd) : Sd .p w (.cons t .nil) r
  | p2 {w : List W} {t p : X} {r r' : List W} (k : Sd .t w t (wAnd :: r)) (k' : Sd .p r p r') : Sd .p w (.cons t p) r'
  | c1 {w : List W} {t : X} {r : List W} (k : Sd .p w t r) (h : r.head? ≠ some wOr) : Sd .c w (.cons t .nil) r
  | c2 {w : List W} {t c : X} {r r' : List W} (k : Sd .p w t (wOr :: r)) (k' : Sd .c r c r') : Sd .c w (.cons t c) r'
theorem cmpAt_some {w r : List W} {a b : W} {o : Nat} (h : cmpAt w = some (a, o, b, r)) : ∃ u, w = a :: u :: b :: r ∧ opN u = o ∧ o ≠ 0 := by
  unfold cmpAt at h
  split at h
  · split at h
    · cases h
    · rename_i a' u b' r' hu
      simp only [Option.some.injEq, Prod.mk.injEq] at h
      obtain ⟨rfl, rfl, rfl, rfl⟩ := h
      exact ⟨u, rfl, rfl, hu⟩
  · cases h
theorem cmpAt_of {a o b : W} {r : List W} (h : opN o ≠ 0) : cmpAt (a :: o :: b :: r) = some (a, opN o, b, r) := by
  show (if opN o = 0 then none else some (a, opN o, b, r)) = _; rw [if_neg h]
/-- What is told is told of such words. -/
theorem pr_sd : ∀ {n : Nat} {m : Md} {d : Nat} {w : List W} {x : X} {r : List W}, pr n m d w = .ok x r → Sd m w x r
  | 0, _, _, _, _, _, h => by cases h
  | n + 1, .t, d, w, x, r, h => by
    unfold pr at h
    split at h
    · rename_i a o b r' hc
      obtain ⟨u, rfl, rfl, hu⟩ := cmpAt_some hc
      cases h
      exact .cmp hu
    · rename_i hc
      split at h
      · cases h
      · rename_i y r0
        split at h
        · rename_i hy
          subst hy
          split at h
          · cases h
          · cases hq : pr n .t (d + 1) r0 with
            | err e => rw [hq] at h; cases h
            | ok t r' =>
              rw [hq] at h
              have := pr_sd hq
              cases h
              exact .neg hc this
        · split at h
          · rename_i hy
            subst hy
            split at h
            · cases h
            · cases hq : pr n .c (d + 1) r0 with
              | err e => rw [hq] at h; cases h
              | ok t r' =>
                rw [hq] at h
                have := pr_sd hq
                simp only [Rs.bind] at h
                split at h
                · cases h
                · split at h
                  · rename_i hz
                    subst hz
                    cases h
                    exact .par hc this
                  · cases h
          · cases h
  | n + 1, .p, d, w, x, r, h => by
    unfold pr at h
    cases hq : pr n .t d w with
    | err e => rw [hq] at h; cases h
    | ok t r' =>
      rw [hq] at h
      have h1 := pr_sd hq
      simp only [Rs.bind] at h
      split at h
      · cases h; exact .p1 h1 (by simp)
      · split at h
        · rename_i r2 hz
          subst hz
          cases hq2 : pr n .p d r2 with
          | err e => rw [hq2] at h; cases h
          | ok t2 r3 =>
            rw [hq2] at h
            have h2 := pr_sd hq2
            cases h
            exact .p2 h1 h2
        · rename_i hz
          cases h; exact .p1 h1 (by simpa using hz)
  | n + 1, .c, d, w, x, r, h => by
    unfold pr at h
    cases hq : pr n .p d w with
    | err e => rw [hq] at h; cases h
    | ok t r' =>
      rw [hq] at h
      have h1 := pr_sd hq
      simp only [Rs.bind] at h
      split at h
      · cases h; exact .c1 h1 (by simp)
      · split at h
        · rename_i r2 hz
          subst hz
          cases hq2 : pr n .c d r2 with
          | err e => rw [hq2] at h; cases h
          | ok t2 r3 =>
            rw [hq2] at h
            have h2 := pr_sd hq2
            cases h
            exact .c2 h1 h2
        · rename_i hz
          cases h; exact .c1 h1 (by simpa using hz)
theorem Sd.lt {m : Md} {w : List W} {x : X} {r : List W} (h : Sd m w x r) : r.length < w.length := by
  induction h with
  | cmp _ => simp; omega
  | neg _ _ ih => simp; omega
  | par _ _ ih => simp at ih ⊢; omega
  | p1 _ _ ih => exact ih
  | p2 _ _ ih1 ih2 => simp at ih1; omega
  | c1 _ _ ih => exact ih
  | c2 _ _ ih1 ih2 => simp at ih1; omega
/-- Of such words the tree is told, at each depth that is not too deep. -/
theorem Sd.pr {m : Md} {w : List W} {x : X} {r : List W} (h : Sd m w x r) : ∀ {n d : Nat}, fuel m w ≤ n → Go.Proofs.Ytdacddkelagdnaa.pr n m d w = .ok x r ∨ Go.Proofs.Ytdacddkelagdnaa.pr n m d w = .err 65 := by
  induction h with
  | cmp h =>
    intro n d hn
    cases n with
    | zero => simp [fuel, Md.n] at hn
    | succ n =>
      left
      unfold Go.Proofs.Ytdacddkelagdnaa.pr
      rw [cmpAt_of h]
  | neg h k ih =>
    intro n d hn
    cases n with
    | zero => simp [fuel, Md.n] at hn
    | succ n =>
      unfold Go.Proofs.Ytdacddkelagdnaa.pr
      rw [h]
      simp only [if_true]
      by_cases hd : d = 64
      · rw [if_pos hd]; right; trivial
      · rw [if_neg hd]
        rcases ih (n := n) (d := d + 1) (by simp [fuel, Md.n] at hn ⊢; omega) with h1 | h1 <;> rw [h1]
        · left; rfl
        · right; rfl
  | par h k ih =>
    intro n d hn
    cases n with
    | zero => simp [fuel, Md.n] at hn
    | succ n =>
      unfold Go.Proofs.Ytdacddkelagdnaa.pr
      rw [h]
      simp only [show ¬ wOpen = wNot by decide, if_false, if_true]
      by_cases hd : d = 64
      · rw [if_pos hd]; right; trivial
      · rw [if_neg hd]
        rcases ih (n := n) (d := d + 1) (by simp [fuel, Md.n] at hn ⊢; omega) with h1 | h1 <;> rw [h1]
        · left; simp [Rs.bind]
        · right; rfl
  | p1 k h ih =>
    intro n d hn
    cases n with
    | zero => simp [fuel, Md.n] at hn
    | succ n =>
      unfold Go.Proofs.Ytdacddkelagdnaa.pr
      rcases ih (n := n) (d := d) (by simp [fuel, Md.n] at hn ⊢; omega) with h1 | h1 <;> rw [h1]
      · left
        simp only [Rs.bind]
        split
        · rfl
        · rw [if_neg (by simpa using h)]
      · right; rfl
  | p2 k k' ih ih' =>
    intro n d hn
    have hl := k.lt
    cases n with
    | zero => simp [fuel, Md.n] at hn
    | succ n =>
      unfold Go.Proofs.Ytdacddkelagdnaa.pr
      rcases ih (n := n) (d := d) (by simp [fuel, Md.n] at hn ⊢; omega) with h1 | h1 <;> rw [h1]
      · simp only [Rs.bind, if_true]
        rcases ih' (n := n) (d := d) (by simp [fuel, Md.n] at hn hl ⊢; omega) with h2 | h2 <;> rw [h2]
        · left; rfl
        · right; rfl
      · right; rfl
  | c1 k h ih =>
    intro n d hn
    cases n with
    | zero => simp [fuel, Md.n] at hn
    | succ n =>
      unfold Go.Proofs.Ytdacddkelagdnaa.pr
      rcases ih (n := n) (d := d) (by simp [fuel, Md.n] at hn ⊢; omega) with h1 | h1 <;> rw [h1]
      · left
        simp only [Rs.bind]
        split
        · rfl
        · rw [if_neg (by simpa using h)]
      · right; rfl
  | c2 k k' ih ih' =>
    intro n d hn
    have hl := k.lt
    cases n with
    | zero => simp [fuel, Md.n] at hn
    | succ n =>
      unfold Go.Proofs.Ytdacddkelagdnaa.pr
      rcases ih (n := n) (d := d) (by simp [fuel, Md.n] at hn ⊢; omega) with h1 | h1 <;> rw [h1]
      · simp only [Rs.bind, if_true]
        rcases ih' (n := n) (d := d) (by simp [fuel, Md.n] at hn hl ⊢; omega) with h2 | h2 <;> rw [h2]
        · left; rfl
        · right; rfl
      · right; rfl
/-- Of words that are a condition just that is told, or they are too deep. -/
theorem Sd.parse {w : List W} {c : X} (h : Sd .c w c []) : Go.Proofs.Ytdacddkelagdnaa.parse w = .ok c [] ∨ Go.Proofs.Ytdacddkelagdnaa.parse w = .err 65 := by
  unfold Go.Proofs.Ytdacddkelagdnaa.parse
  rcases h.pr (n := fuel .c w) (d := 0) (Nat.le_refl _) with h1 | h1 <;> rw [h1]
  · left; rfl
  · right; rfl
theorem parse_sd {w r : List W} {c : X} (h : parse w = .ok c r) : Sd .c w c [] := by
  unfold parse at h
  cases hq : pr (fuel .c w) .c 0 w with
  | err e => rw [hq] at h; cases h
  | ok t r' =>
    rw [hq] at h
    simp only [Rs.bind] at h
    split at h
    · cases h; exact pr_sd hq
    · cases h
end Go.Proofs.Ytdacddkelagdnaa
