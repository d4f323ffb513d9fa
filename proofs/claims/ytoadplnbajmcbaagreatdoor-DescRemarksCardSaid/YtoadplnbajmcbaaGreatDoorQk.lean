/- Layer 12: what was read fits; both Parse as one says it; awake's rows. -/
import Derived.Test.YtoadplnbajmcbaaGreatDoorQf
namespace Go.Proofs.YtoadplnbajmcbaaGreatDoor
open Go.Am Go.Pd
set_option linter.unusedVariables false
set_option maxRecDepth 20000
set_option maxHeartbeats 8000000
attribute [local irreducible] OS LSr ODS CS YS
def ItFit (x : It) : Prop := x.word.length ≤ 400 ∧ x.args.length ≤ 400 ∧ ∀ a, a ∈ x.args → a.length ≤ 400
structure Fit (d : Dc) : Prop where
  ok : DcOk d
  head : ∀ x, x ∈ d.head → ItFit x
  secs : ∀ y, y ∈ d.secs → y.name.length ≤ 400 ∧ ∀ x, x ∈ y.items → ItFit x
theorem Fit.nil : Fit ⟨[], []⟩ := ⟨⟨by simp, by simp, rfl, by decide, by decide⟩, fun x h => (by cases h), fun s h => (by cases h)⟩
theorem DcOk.line {d d' : Dc} {no : Int} {w : W} {a : List W} (h : DcOk d) (hl : LN d no w a = .ok d') : DcOk d' := by
  have hl' : Go.Pd.line chk d no w a = .ok d' := hl
  unfold Go.Pd.line at hl'
  by_cases hw : w = kTemplate ∨ w = kJob
  · rw [if_pos hw] at hl'
    match a, hl' with
    | [n], hl' =>
      simp only at hl'
      split at hl'
      · cases hl'
      · split at hl'
        · cases hl'
        · split at hl'
          · cases hl'
          · rename_i hc
            cases hl'
            exact h.begin (by unfold cnt; omega)
    | [], hl' => cases hl'
    | _ :: _ :: _, hl' => cases hl'
  · rw [if_neg hw] at hl'
    split at hl'
    · cases hl'
    · split at hl'
      · cases hl'
      · split at hl'
        · cases hl'
        · split at hl'
          · cases hl'
          · rename_i hf
            cases hl'
            obtain ⟨hd, secs⟩ := d
            rcases getLast_cases secs with rfl | ⟨S, y, rfl⟩
            · have hf' : hd.length < 40 := by simpa [Dc.last] using hf
              exact h.addH hf'
            · have hf' : y.items.length < 40 := by simpa [Dc.last] using hf
              have e2 : (Dc.mk hd (S ++ [y])).add ⟨no, w, a⟩ = ⟨hd, S ++ [⟨y.no, y.kind, y.name, y.items ++ [⟨no, w, a⟩]⟩]⟩ := add_last ..
              rw [e2]
              exact h.add hf'
theorem ln_err {d : Dc} {no : Int} {w : W} {a : List W} {e : Nat} (hl : LN d no w a = .error e) : e ≠ 0 := by
  have hl' : Go.Pd.line chk d no w a = .error e := hl
  unfold Go.Pd.line at hl'
  by_cases hw : w = kTemplate ∨ w = kJob
  · rw [if_pos hw] at hl'
    match a, hl' with
    | [n], hl' =>
      simp only at hl'
      split at hl'
      · cases hl'; decide
      · split at hl'
        · cases hl'; decide
        · split at hl'
          · cases hl'; decide
          · cases hl'
    | [], hl' => cases hl'; decide
    | _ :: _ :: _, hl' => cases hl'; decide
  · rw [if_neg hw] at hl'
    split at hl'
    · cases hl'; decide
    · split at hl'
      · rename_i hz
        cases hl'; exact hz
      · split at hl'
        · cases hl'; decide
        · split at hl'
          · cases hl'; decide
          · cases hl'
theorem rd_err : ∀ {l : List W} {no n e : Nat} {d : Dc}, readL chk spD no d l = .error (n, e) → e ≠ 0
  | [], no, n, e, d, hr => by cases hr
  | s :: l, no, n, e, d, hr => by
    rw [readL_E] at hr
    unfold readE at hr
    rcases sp_cases s with ⟨e', he, h1, _⟩ | ⟨ws, h1, _⟩
    · rw [h1] at hr; cases hr; exact he
    · rw [h1] at hr
      cases ws with
      | nil => exact rd_err hr
      | cons w a =>
        simp only at hr
        cases hl : LN d (no : Int) w a with
        | error e2 => rw [hl] at hr; cases hr; exact ln_err hl
        | ok d2 => rw [hl] at hr; exact rd_err hr
theorem Fit.line {d d' : Dc} {no : Int} {w : W} {a : List W} (h : Fit d) (ha : a.length ≤ 400) (hb : ∀ x, x ∈ w :: a → x.length ≤ 400) (hl : LN d no w a = .ok d') : Fit d' := by
  have hx : ItFit ⟨no, w, a⟩ := ⟨hb w (by simp), ha, fun x hx => hb x (by simp [hx])⟩
  have hl' : Go.Pd.line chk d no w a = .ok d' := hl
  unfold Go.Pd.line at hl'
  by_cases hw : w = kTemplate ∨ w = kJob
  · rw [if_pos hw] at hl'
    match a, hl' with
    | [n], hl' =>
      simp only at hl'
      split at hl'
      · cases hl'
      · split at hl'
        · cases hl'
        · split at hl'
          · cases hl'
          · rename_i hc
            cases hl'
            refine ⟨h.ok.begin (by unfold cnt; omega), h.head, fun y hy => ?_⟩
            rcases List.mem_append.1 hy with hy | hy
            · exact h.secs y hy
            · simp at hy; subst hy
              exact ⟨hb n (by simp), fun x hx => (by cases hx)⟩
    | [], hl' => cases hl'
    | _ :: _ :: _, hl' => cases hl'
  · rw [if_neg hw] at hl'
    split at hl'
    · cases hl'
    · split at hl'
      · cases hl'
      · split at hl'
        · cases hl'
        · split at hl'
          · cases hl'
          · rename_i hf
            cases hl'
            obtain ⟨hd, secs⟩ := d
            rcases getLast_cases secs with rfl | ⟨S, y, rfl⟩
            · have hf' : hd.length < 40 := by simpa [Dc.last] using hf
              show Fit ⟨hd ++ [_], []⟩
              refine ⟨h.ok.addH hf', fun x hx' => ?_, h.secs⟩
              rcases List.mem_append.1 hx' with hx' | hx'
              · exact h.head x hx'
              · simp at hx'; subst hx'; exact hx
            · have hf' : y.items.length < 40 := by simpa [Dc.last] using hf
              have e2 : (Dc.mk hd (S ++ [y])).add ⟨no, w, a⟩ = ⟨hd, S ++ [⟨y.no, y.kind, y.name, y.items ++ [⟨no, w, a⟩]⟩]⟩ := add_last ..
              rw [e2]
              refine ⟨h.ok.add hf', h.head, fun z hz => ?_⟩
              rcases List.mem_append.1 hz with hz | hz
              · exact h.secs z (by simp [hz])
              · simp at hz; subst hz
                have hy := h.secs y (by simp)
                refine ⟨hy.1, fun x hx' => ?_⟩
                rcases List.mem_append.1 hx' with hx' | hx'
                · exact hy.2 x hx'
                · simp at hx'; subst hx'; exact hx
theorem Fit.read : ∀ {l : List W} {no : Nat} {d d' : Dc}, Fit d → readL chk spD no d l = .ok d' → Fit d'
  | [], no, d, d', h, hr => by cases hr; exact h
  | s :: l, no, d, d', h, hr => by
    rw [readL_E] at hr
    unfold readE at hr
    rcases sp_cases s with ⟨e, he, h1, _⟩ | ⟨ws, h1, _, _, h4, h5⟩
    · rw [h1] at hr; cases hr
    · rw [h1] at hr
      cases ws with
      | nil => exact Fit.read h hr
      | cons w a =>
        simp only at hr
        cases hl : LN d (no : Int) w a with
        | error e => rw [hl] at hr; cases hr
        | ok d2 =>
          rw [hl] at hr
          exact Fit.read (h.line (by simp at h4; omega) h5 hl) hr
abbrev RD (s : W) : Except (Nat × Nat) Dc := readL chk spD 1 ⟨[], []⟩ (segs s)
def pdN : Except (Nat × Nat) Dc → Nat | .error (no, _) => no | .ok _ => 0
def pdE : Except (Nat × Nat) Dc → Nat | .error (_, e) => e | .ok _ => 0
def pdD : Except (Nat × Nat) Dc → Dc | .error _ => ⟨[], []⟩ | .ok d => d
theorem rd_fit (s : W) : Fit (pdD (RD s)) := by
  cases h : RD s with
  | error e => exact Fit.nil
  | ok d => exact Fit.read Fit.nil h
section
variable {F : RL}
theorem docV_nil {M : RL} : DocV M (.agg #[.slice none 0 0, .slice none 0 0]) ⟨[], []⟩ := ⟨_, _, [], [], rfl, .inl ⟨rfl, rfl, rfl⟩, rfl, .inl ⟨rfl, rfl, rfl⟩, rfl⟩
theorem DocV.form {M : RL} {v : Value} {d : Dc} (h : DocV M v d) : ∃ A c A' c', v = .agg #[.slice A d.head.length c, .slice A' d.secs.length c'] := by
  obtain ⟨hv, sv, hcs, scs, rfl, h2, h3, h4, h5⟩ := h
  obtain ⟨A, c, rfl⟩ := h2.form
  obtain ⟨A', c', rfl⟩ := h4.form
  exact ⟨_, _, _, _, rfl⟩
def Parsed (F : RL) (R : Except (Nat × Nat) Dc) (v : Value) (L' : RL) : Prop := ∃ A c A' c' Z, v = .tuple #[.agg #[.slice A (pdD R).head.length c, .slice A' (pdD R).secs.length c'], .int .i64 (pdN R : Nat), .int .i64 (pdE R : Nat)] ∧ L' = Z ++ F ∧ DocV (Z ++ F) (.agg #[.slice A (pdD R).head.length c, .slice A' (pdD R).secs.length c']) (pdD R)
theorem parsed_of {R : Except (Nat × Nat) Dc} {v : Value} {L' : RL} (h : match R with
    | .error (no, e) => v = .tuple #[.agg #[.slice none 0 0, .slice none 0 0], .int .i64 (no : Nat), .int .i64 (e : Nat)] ∧ Ends F L'
    | .ok d => ∃ u Z, v = .tuple #[u, .int .i64 0, .int .i64 0] ∧ L' = Z ++ F ∧ DocV (Z ++ F) u d) : Parsed F R v L' := by
  cases R with
  | error p =>
    obtain ⟨no, e⟩ := p
    obtain ⟨rfl, Z, rfl⟩ := h
    exact ⟨none, 0, none, 0, Z, rfl, rfl, docV_nil⟩
  | ok d =>
    obtain ⟨u, Z, rfl, rfl, hV⟩ := h
    obtain ⟨A, c, A', c', rfl⟩ := hV.form
    exact ⟨A, c, A', c', Z, rfl, rfl, hV⟩
theorem Parse_all {g : Gn} (hG : GL g F) {s : W} (hs : s.length ≤ 1000000000000) : CS Tryz.prog 15 [str s] F fun v L' => Parsed F (RD s) v L' := (Parse_ct hG hs).mono fun _ _ h => parsed_of h
end
end Go.Proofs.YtoadplnbajmcbaaGreatDoor
