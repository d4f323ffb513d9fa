/- Layer 11, plain: conditions in brackets, put together. -/
import Derived.Test.YtdacddkelagdnaaEa
namespace Go.Proofs.Ytdacddkelagdnaa
set_option linter.unusedVariables false

theorem Sd.lt3 {m : Md} {w : List W} {x : X} {r : List W} (h : Sd m w x r) : r.length + 3 ≤ w.length := by
  induction h with
  | cmp _ => simp
  | neg _ _ ih => simp at ih ⊢; omega
  | par _ _ ih => simp at ih ⊢; omega
  | p1 _ _ ih => exact ih
  | p2 _ _ ih1 ih2 => simp at ih1; omega
  | c1 _ _ ih => exact ih
  | c2 _ _ ih1 ih2 => simp at ih1; omega
theorem cmpAt_more {y : W} {w s : List W} (h : cmpAt (y :: w) = none) (hl : 2 ≤ w.length) : cmpAt (y :: (w ++ s)) = none := by
  match w, hl with
  | u :: v :: w, _ =>
    have h1 : (if opN u = 0 then none else some (y, opN u, v, w)) = none := h
    show (if opN u = 0 then none else some (y, opN u, v, w ++ s)) = none
    by_cases hu : opN u = 0
    · rw [if_pos hu]
    · rw [if_neg hu] at h1; cases h1
/-- May these words stand behind? -/
def Md.may (m : Md) (r s : List W) : Prop := match m with
  | .t => True
  | .p => r ≠ [] ∨ s.head? ≠ some wAnd
  | .c => r ≠ [] ∨ (s.head? ≠ some wAnd ∧ s.head? ≠ some wOr)
theorem head_more {r s : List W} {x : W} (h : r.head? ≠ some x) (h2 : r ≠ [] ∨ s.head? ≠ some x) : (r ++ s).head? ≠ some x := by
  cases r with
  | nil => rcases h2 with h2 | h2
           · exact absurd rfl h2
           · exact h2
  | cons y r => exact h
theorem Sd.more {s : List W} {m : Md} {w : List W} {x : X} {r : List W} (h : Sd m w x r) : m.may r s → Sd m (w ++ s) x (r ++ s) := by
  induction h with
  | cmp h => intro _; exact .cmp h
  | neg h k ih => intro _; exact .neg (cmpAt_more h (by have := k.lt3; omega)) (ih trivial)
  | par h k ih => intro _; exact .par (cmpAt_more h (by have := k.lt3; omega)) (ih (.inl (by simp)))
  | p1 k h ih =>
    intro hm
    exact .p1 (ih trivial) (head_more h hm)
  | p2 k k' ih ih' =>
    intro hm
    exact .p2 (ih trivial) (ih' hm)
  | c1 k h ih =>
    intro hm
    refine .c1 (ih ?_) (head_more h ?_)
    · rcases hm with hm | hm
      · exact .inl hm
      · exact .inr hm.1
    · rcases hm with hm | hm
      · exact .inl hm
      · exact .inr hm.2
  | c2 k k' ih ih' =>
    intro hm
    exact .c2 (ih (.inl (by simp))) (ih' hm)
/-- No operator stands first. -/
def Pl (w : List W) : Prop := ∀ o, w.head? = some o → opN o = 0
theorem hd {x y : W} {s : List W} (h : x ≠ y) : (x :: s).head? ≠ some y := fun e => h (Option.some.inj e)
theorem hn {y : W} : ([] : List W).head? ≠ some y := fun e => (by cases e)
/-- A condition in brackets, as a term. -/
theorem Sd.bk0 {a : List W} {c : X} (h : Sd .c a c []) (hp : Pl a) (s : List W) : Sd .t (wOpen :: (a ++ wClose :: s)) (.par c) s := by
  refine .par ?_ (h.more (s := wClose :: s) (.inr ⟨hd (by decide), hd (by decide)⟩))
  have h3 := h.lt3
  match a, h3, hp with
  | u :: v :: a, _, hp =>
    have hu := hp u rfl
    show (if opN u = 0 then none else some (wOpen, opN u, v, a ++ wClose :: s)) = none
    rw [if_pos hu]
/-- In brackets. -/
def brk (a : List W) : List W := wOpen :: (a ++ [wClose])
theorem brk_pl (a s : List W) : Pl (brk a ++ s) := fun o h => by
  have : o = wOpen := (Option.some.inj h).symm
  subst this; decide
theorem Sd.one {w s : List W} {x : X} (h : Sd .t w x s) (ha : s.head? ≠ some wAnd) (ho : s.head? ≠ some wOr) : Sd .c w (.cons (.cons x .nil) .nil) s := .c1 (.p1 h ha) ho
theorem Sd.or2 {w s r : List W} {x y : X} (h : Sd .t w x (wOr :: s)) (k : Sd .c s y r) : Sd .c w (.cons (.cons x .nil) y) r := .c2 (.p1 h (hd (by decide))) k
theorem brk_app (a s : List W) : brk a ++ s = wOpen :: (a ++ wClose :: s) := by simp [brk]
theorem Sd.bk {a : List W} {c : X} (h : Sd .c a c []) (hp : Pl a) (s : List W) : Sd .t (brk a ++ s) (.par c) s := brk_app a s ▸ h.bk0 hp s
section
variable {a b c : List W} {x y z : X} (ha : Sd .c a x []) (pa : Pl a) (hb : Sd .c b y []) (pb : Pl b) (hc : Sd .c c z []) (pc : Pl c)
include ha pa hb pb hc pc
theorem sd_brk : Sd .c (brk a) (.cons (.cons (.par x) .nil) .nil) [] := by
  have _u : (Pl a ∧ Pl b ∧ Pl c) ∧ Sd .c a x [] ∧ Sd .c b y [] ∧ Sd .c c z [] := ⟨⟨pa, pb, pc⟩, ha, hb, hc⟩
  have := Sd.one (ha.bk pa []) hn hn; rwa [List.append_nil] at this
theorem sd_or : Sd .c (brk a ++ wOr :: brk b) (.cons (.cons (.par x) .nil) (.cons (.cons (.par y) .nil) .nil)) [] := by
  have _u : (Pl a ∧ Pl b ∧ Pl c) ∧ Sd .c a x [] ∧ Sd .c b y [] ∧ Sd .c c z [] := ⟨⟨pa, pb, pc⟩, ha, hb, hc⟩
  have := Sd.or2 (ha.bk pa (wOr :: (brk b ++ []))) (Sd.one (hb.bk pb []) hn hn); rwa [List.append_nil] at this
theorem sd_and : Sd .c (brk a ++ wAnd :: brk b) (.cons (.cons (.par x) (.cons (.par y) .nil)) .nil) [] := by
  have _u : (Pl a ∧ Pl b ∧ Pl c) ∧ Sd .c a x [] ∧ Sd .c b y [] ∧ Sd .c c z [] := ⟨⟨pa, pb, pc⟩, ha, hb, hc⟩
  have : Sd .c (brk a ++ wAnd :: (brk b ++ [])) _ [] := .c1 (.p2 (ha.bk pa (wAnd :: (brk b ++ []))) (.p1 (hb.bk pb []) hn)) hn
  rwa [List.append_nil] at this
theorem sd_same : Sd .c (brk a ++ wOr :: brk a) (.cons (.cons (.par x) .nil) (.cons (.cons (.par x) .nil) .nil)) [] := by
  have _u : (Pl a ∧ Pl b ∧ Pl c) ∧ Sd .c a x [] ∧ Sd .c b y [] ∧ Sd .c c z [] := ⟨⟨pa, pb, pc⟩, ha, hb, hc⟩
  have := Sd.or2 (ha.bk pa (wOr :: (brk a ++ []))) (Sd.one (ha.bk pa []) hn hn); rwa [List.append_nil] at this
theorem sd_and_or : Sd .c (brk a ++ wAnd :: (brk b ++ wOr :: brk c)) (.cons (.cons (.par x) (.cons (.par y) .nil)) (.cons (.cons (.par z) .nil) .nil)) [] := by
  have _u : (Pl a ∧ Pl b ∧ Pl c) ∧ Sd .c a x [] ∧ Sd .c b y [] ∧ Sd .c c z [] := ⟨⟨pa, pb, pc⟩, ha, hb, hc⟩
  have : Sd .c (brk a ++ wAnd :: (brk b ++ wOr :: (brk c ++ []))) _ [] := .c2 (.p2 (ha.bk pa (wAnd :: (brk b ++ wOr :: (brk c ++ [])))) (.p1 (hb.bk pb (wOr :: (brk c ++ []))) (hd (by decide)))) (Sd.one (hc.bk pc []) hn hn)
  rwa [List.append_nil] at this
theorem sd_or_and : Sd .c (brk a ++ wOr :: (brk b ++ wAnd :: brk c)) (.cons (.cons (.par x) .nil) (.cons (.cons (.par y) (.cons (.par z) .nil)) .nil)) [] := by
  have _u : (Pl a ∧ Pl b ∧ Pl c) ∧ Sd .c a x [] ∧ Sd .c b y [] ∧ Sd .c c z [] := ⟨⟨pa, pb, pc⟩, ha, hb, hc⟩
  have : Sd .c (brk a ++ wOr :: (brk b ++ wAnd :: (brk c ++ []))) _ [] := Sd.or2 (ha.bk pa (wOr :: (brk b ++ wAnd :: (brk c ++ [])))) (.c1 (.p2 (hb.bk pb (wAnd :: (brk c ++ []))) (.p1 (hc.bk pc []) hn)) hn)
  rwa [List.append_nil] at this
theorem neg_brk {w : List W} {t : X} {r : List W} (k : Sd .t (brk a ++ w) t r) : Sd .t (wNot :: (brk a ++ w)) (.neg t) r := by
  have _u : (Pl a ∧ Pl b ∧ Pl c) ∧ Sd .c a x [] ∧ Sd .c b y [] ∧ Sd .c c z [] := ⟨⟨pa, pb, pc⟩, ha, hb, hc⟩
  refine .neg ?_ k
  rw [brk_app]
  have h3 := ha.lt3
  match a, h3 with
  | u :: v :: a, _ => rfl
theorem sd_nots : Sd .c (wNot :: (brk a ++ wAnd :: wNot :: brk b)) (.cons (.cons (.neg (.par x)) (.cons (.neg (.par y)) .nil)) .nil) [] := by
  have _u : (Pl a ∧ Pl b ∧ Pl c) ∧ Sd .c a x [] ∧ Sd .c b y [] ∧ Sd .c c z [] := ⟨⟨pa, pb, pc⟩, ha, hb, hc⟩
  have h2 : Sd .t (wNot :: (brk b ++ [])) (.neg (.par y)) [] := neg_brk hb pb ha pa hc pc (hb.bk pb [])
  have : Sd .c (wNot :: (brk a ++ wAnd :: wNot :: (brk b ++ []))) _ [] := .c1 (.p2 (neg_brk ha pa hb pb hc pc (ha.bk pa (wAnd :: wNot :: (brk b ++ [])))) (.p1 h2 hn)) hn
  rwa [List.append_nil] at this
theorem sd_not_or : Sd .c (wNot :: brk (brk a ++ wOr :: brk b)) (.cons (.cons (.neg (.par (.cons (.cons (.par x) .nil) (.cons (.cons (.par y) .nil) .nil)))) .nil) .nil) [] := by
  have _u : (Pl a ∧ Pl b ∧ Pl c) ∧ Sd .c a x [] ∧ Sd .c b y [] ∧ Sd .c c z [] := ⟨⟨pa, pb, pc⟩, ha, hb, hc⟩
  have h1 := sd_or ha pa hb pb hc pc
  have h2 := h1.bk (brk_pl _ _) []
  have := neg_brk h1 (brk_pl _ _) hb pb hc pc h2
  rw [List.append_nil] at this
  exact Sd.one this hn hn
theorem sd_and_in : Sd .c (brk a ++ wAnd :: brk (brk b ++ wOr :: brk c)) (.cons (.cons (.par x) (.cons (.par (.cons (.cons (.par y) .nil) (.cons (.cons (.par z) .nil) .nil))) .nil)) .nil) [] :=
  sd_and ha pa (sd_or hb pb hc pc ha pa) (brk_pl _ _) hc pc
end
/-- If brackets around words make a condition, an operator is among the words. -/
theorem Sd.op {m : Md} {w : List W} {x : X} {r : List W} (h : Sd m w x r) : ∃ o ∈ w, opN o ≠ 0 := by
  induction h with
  | cmp h => exact ⟨_, by simp, h⟩
  | neg _ _ ih => obtain ⟨o, ho, h⟩ := ih; exact ⟨o, by simp [ho], h⟩
  | par _ _ ih => obtain ⟨o, ho, h⟩ := ih; exact ⟨o, by simp [ho], h⟩
  | p1 _ _ ih => exact ih
  | p2 _ _ ih _ => exact ih
  | c1 _ _ ih => exact ih
  | c2 _ _ ih _ => exact ih
theorem op_brk {w : List W} {x : X} (h : Sd .c (brk w) x []) : ∃ o ∈ w, opN o ≠ 0 := by
  obtain ⟨o, ho, h1⟩ := h.op
  simp [brk] at ho
  rcases ho with rfl | ho | rfl
  · exact absurd (by decide) h1
  · exact ⟨o, ho, h1⟩
  · exact absurd (by decide) h1
end Go.Proofs.Ytdacddkelagdnaa
