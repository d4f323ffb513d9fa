import Derived.Test.YtllcbjaajffaeaaGreatDoorQf
import Derived.Test.YtllcbjaajffaeaaGreatDoorQgM
namespace Go.Proofs.YtllcbjaajffaeaaGreatDoor
open Go.Am Go.Pd
set_option linter.unusedVariables false
set_option maxRecDepth 20000
set_option maxHeartbeats 8000000
attribute [local irreducible] OS LSr ODS CS YS
def ItFit (x : It) : Prop := x.word.length ≤ 400 ∧ x.args.length ≤ 400 ∧ ∀ a, a ∈ x.args → a.length ≤ 400
structure Fit (d : Dc) : Prop where
  ok : DcOk d
  head : ∀ x, x ∈ d.head → ItFit x
  secs : ∀ y, y ∈ d.secs → y.name.length ≤ 400 ∧ ∀ x, x ∈ y.items → ItFit x
theorem Fit.nil : Fit ⟨[], []⟩ := ⟨⟨by simp, by simp, rfl, by decide, by decide⟩, fun x h => (by cases h), fun s h => (by cases h)⟩
theorem Fit.line {d d' : Dc} {no : Int} {w : W} {a : List W} (h : Fit d) (ha : a.length ≤ 400) (hb : ∀ x, x ∈ w :: a → x.length ≤ 400) (hl : LN d no w a = .ok d') : Fit d' := by
  have hx : ItFit ⟨no, w, a⟩ := ⟨hb w (by simp), ha, fun x hx => hb x (by simp [hx])⟩
  have hl' : Go.Pd.line chk d no w a = .ok d' := hl
  unfold Go.Pd.line at hl'
  by_cases hw : w = kTemplate ∨ w = kJob
  · rw [if_pos hw] at hl'
    match a, hl' with
    | [n], hl' =>
      simp only at hl'
      split at hl'
      · cases hl'
      · split at hl'
        · cases hl'
        · split at hl'
          · cases hl'
          · rename_i hc
            cases hl'
            refine ⟨h.ok.begin (by unfold cnt; omega), h.head, fun y hy => ?_⟩
            rcases List.mem_append.1 hy with hy | hy
            · exact h.secs y hy
            · simp at hy; subst hy
              exact ⟨hb n (by simp), fun x hx => (by cases hx)⟩
    | [], hl' => cases hl'
    | _ :: _ :: _, hl' => cases hl'
  · rw [if_neg hw] at hl'
    split at hl'
    · cases hl'
    · split at hl'
      · cases hl'
      · split at hl'
        · cases hl'
        · split at hl'
          · cases hl'
          · rename_i hf
            cases hl'
            obtain ⟨hd, secs⟩ := d
            rcases getLast_cases secs with rfl | ⟨S, y, rfl⟩
            · have hf' : hd.length < 40 := by simpa [Dc.last] using hf
              show Fit ⟨hd ++ [_], []⟩
              refine ⟨h.ok.addH hf', fun x hx' => ?_, h.secs⟩
              rcases List.mem_append.1 hx' with hx' | hx'
              · exact h.head x hx'
              · simp at hx'; subst hx'; exact hx
            · have hf' : y.items.length < 40 := by simpa [Dc.last] using hf
              have e2 : (Dc.mk hd (S ++ [y])).add ⟨no, w, a⟩ = ⟨hd, S ++ [⟨y.no, y.kind, y.name, y.items ++ [⟨no, w, a⟩]⟩]⟩ := add_last ..
              rw [e2]
              refine ⟨h.ok.add hf', h.head, fun z hz => ?_⟩
              rcases List.mem_append.1 hz with hz | hz
              · exact h.secs z (by simp [hz])
              · simp at hz; subst hz
                have hy := h.secs y (by simp)
                refine ⟨hy.1, fun x hx' => ?_⟩
                rcases List.mem_append.1 hx' with hx' | hx'
                · exact hy.2 x hx'
                · simp at hx'; subst hx'; exact hx
theorem Fit.read : ∀ {l : List W} {no : Nat} {d d' : Dc}, Fit d → readL chk spD no d l = .ok d' → Fit d'
  | [], no, d, d', h, hr => by cases hr; exact h
  | s :: l, no, d, d', h, hr => by
    rw [readL_E] at hr
    unfold readE at hr
    rcases sp_cases s with ⟨e, he, h1, _⟩ | ⟨ws, h1, _, _, h4, h5⟩
    · rw [h1] at hr; cases hr
    · rw [h1] at hr
      cases ws with
      | nil => exact Fit.read h hr
      | cons w a =>
        simp only at hr
        cases hl : LN d (no : Int) w a with
        | error e => rw [hl] at hr; cases hr
        | ok d2 =>
          rw [hl] at hr
          exact Fit.read (h.line (by simp at h4; omega) h5 hl) hr
abbrev RD (s : W) : Except (Nat × Nat) Dc := readL chk spD 1 ⟨[], []⟩ (segs s)
def pdN : Except (Nat × Nat) Dc → Nat | .error (no, _) => no | .ok _ => 0
def pdE : Except (Nat × Nat) Dc → Nat | .error (_, e) => e | .ok _ => 0
def pdD : Except (Nat × Nat) Dc → Dc | .error _ => ⟨[], []⟩ | .ok d => d
theorem rd_fit (s : W) : Fit (pdD (RD s)) := by
  cases h : RD s with
  | error e => exact Fit.nil
  | ok d => exact Fit.read Fit.nil h
section
variable {F : RL}
theorem docV_nil {M : RL} : DocV M (.agg #[.slice none 0 0, .slice none 0 0]) ⟨[], []⟩ := ⟨_, _, [], [], rfl, .inl ⟨rfl, rfl, rfl⟩, rfl, .inl ⟨rfl, rfl, rfl⟩, rfl⟩
theorem DocV.form {M : RL} {v : Value} {d : Dc} (h : DocV M v d) : ∃ A c A' c', v = .agg #[.slice A d.head.length c, .slice A' d.secs.length c'] := by
  obtain ⟨hv, sv, hcs, scs, rfl, h2, h3, h4, h5⟩ := h
  obtain ⟨A, c, rfl⟩ := h2.form
  obtain ⟨A', c', rfl⟩ := h4.form
  exact ⟨_, _, _, _, rfl⟩
def Parsed (F : RL) (R : Except (Nat × Nat) Dc) (v : Value) (L' : RL) : Prop := ∃ A c A' c' Z, v = .tuple #[.agg #[.slice A (pdD R).head.length c, .slice A' (pdD R).secs.length c'], .int .i64 (pdN R : Nat), .int .i64 (pdE R : Nat)] ∧ L' = Z ++ F ∧ DocV (Z ++ F) (.agg #[.slice A (pdD R).head.length c, .slice A' (pdD R).secs.length c']) (pdD R)
theorem parsed_of {R : Except (Nat × Nat) Dc} {v : Value} {L' : RL} (h : match R with
    | .error (no, e) => v = .tuple #[.agg #[.slice none 0 0, .slice none 0 0], .int .i64 (no : Nat), .int .i64 (e : Nat)] ∧ Ends F L'
    | .ok d => ∃ u Z, v = .tuple #[u, .int .i64 0, .int .i64 0] ∧ L' = Z ++ F ∧ DocV (Z ++ F) u d) : Parsed F R v L' := by
  cases R with
  | error p =>
    obtain ⟨no, e⟩ := p
    obtain ⟨rfl, Z, rfl⟩ := h
    exact ⟨none, 0, none, 0, Z, rfl, rfl, docV_nil⟩
  | ok d =>
    obtain ⟨u, Z, rfl, rfl, hV⟩ := h
    obtain ⟨A, c, A', c', rfl⟩ := hV.form
    exact ⟨A, c, A', c', Z, rfl, rfl, hV⟩
theorem Parse_all {g : Gn} (hG : GL g F) {s : W} (hs : s.length ≤ 1000000000000) : CS Tryz.prog 11 [str s] F fun v L' => Parsed F (RD s) v L' := (Parse_ct hG hs).mono fun _ _ h => parsed_of h
end
end Go.Proofs.YtllcbjaajffaeaaGreatDoor
namespace Go.Proofs.YtllcbjaajffaeaaGreatDoor
open Go.Am Go.Pd
set_option maxRecDepth 20000
theorem fit_k {d : Dc} (h : Fit d) : DocK d ∧ DocN d := by
  have h1 := h.ok.secs; have h2 := h.ok.c1; have h3 := h.ok.c2; have h4 := h.ok.head
  refine ⟨⟨by omega, by omega, fun y hy => by have := h.ok.items y hy; omega⟩, ⟨by omega, fun x hx => by have := (h.head x hx).2.1; omega⟩, by omega, fun y hy => ⟨by have := h.ok.items y hy; omega, fun x hx => by have := ((h.secs y hy).2 x hx).2.1; omega⟩⟩
end Go.Proofs.YtllcbjaajffaeaaGreatDoor
namespace Go.Proofs.YtllcbjaajffaeaaGreatDoor
open Go.Am Go.Pd
set_option linter.unusedVariables false
set_option maxRecDepth 20000
set_option maxHeartbeats 4000000
attribute [local irreducible] OS LSr ODS CS YS
abbrev tT : TypeId := 9
inductive Ch : RL → RL → Prop where
  | refl {Z : RL} : Ch Z Z
  | step {Z Z' : RL} {i r : Nat} {c0 c1 : List Value} (h : Ch Z Z') (hi : Z'[i]? = some (r, .cells tT c0)) (h0 : allS c0) (h1 : allS c1) (hl : c1.length = c0.length) : Ch Z (Z'.set i (r, .cells tT c1))
theorem Ch.trans {A Z C : RL} (h : Ch A Z) (k : Ch Z C) : Ch A C := by
  induction k with
  | refl => exact h
  | step _ hi h0 h1 hl ih => exact .step ih hi h0 h1 hl
theorem allS_get : ∀ {cs : List Value}, allS cs → ∃ ws : List W, cs = strs ws
  | [], _ => ⟨[], rfl⟩
  | c :: cs, h => by
    obtain ⟨w, rfl⟩ := h c (by simp)
    obtain ⟨ws, rfl⟩ := allS_get (cs := cs) fun x hx => h x (by simp [hx])
    exact ⟨w :: ws, rfl⟩
theorem mem_set {Z B : RL} {i : Nat} {x y p : Nat × ARow} (hi : Z[i]? = some x) (hp : p ∈ Z ++ B) (hne : p ≠ x) : p ∈ Z.set i y ++ B := by
  rcases List.mem_append.1 hp with h | h
  · obtain ⟨j, hj⟩ := List.getElem?_of_mem h
    have hij : i ≠ j := fun e => by subst e; rw [hi] at hj; exact hne (Option.some.inj hj).symm
    exact List.mem_append_left _ (List.mem_of_getElem? (i := j) (by rw [List.getElem?_set_ne hij]; exact hj))
  · exact List.mem_append_right _ h
theorem mem_new {Z B : RL} {i : Nat} {x y : Nat × ARow} (hi : Z[i]? = some x) : y ∈ Z.set i y ++ B := by
  have hl := (List.getElem?_eq_some_iff.1 hi).1
  exact List.mem_append_left _ (List.mem_of_getElem? (i := i) (by rw [List.getElem?_set_self hl]))
section
variable {Z B : RL} {i r : Nat} {c0 c1 : List Value}
theorem WO.ch (hi : Z[i]? = some (r, .cells tT c0)) (h0 : allS c0) (h1 : allS c1) (hl : c1.length = c0.length) {a : Value} {n : Nat} {ws : List W} (h : WO tT (Z ++ B) a n (strs ws)) : ∃ ws' : List W, ws'.length = ws.length ∧ WO tT (Z.set i (r, .cells tT c1) ++ B) a n (strs ws') := by
  rcases h with ⟨h2, h3, h4⟩ | ⟨r', off, cap, row, cs₀, h2, hmem, hrd, hcut, hcase⟩
  · exact ⟨ws, rfl, .inl ⟨h2, h3, h4⟩⟩
  · by_cases e : (r', row) = (r, ARow.cells tT c0)
    · obtain ⟨rfl, rfl⟩ := Prod.mk.inj e
      obtain rfl : c0 = cs₀ := Option.some.inj hrd
      obtain ⟨e1, e2, e3, e4⟩ := cut_eq hcut
      have hfit : off + n * 1 ≤ c1.length := by rw [hl]; omega
      have hall : allS ((c1.drop off).take (n * 1)) := fun c hc => h1 c (List.mem_of_mem_drop (List.mem_of_mem_take hc))
      obtain ⟨ws', hw⟩ := allS_get hall
      have hlen : ws'.length = ws.length := by
        have h5 := congrArg List.length hw
        simp only [List.length_take, List.length_drop] at h5
        rw [strs_len] at h5
        rw [strs_len] at e3
        omega
      refine ⟨ws', hlen, .inr ⟨r', off, cap, _, c1, h2, mem_new hi, rfl, by rw [cut_of hfit, hw], ?_⟩⟩
      rcases hcase with ⟨g1, g2, g3⟩ | ⟨g1, g2⟩
      · exact .inl ⟨g1, rfl, h1⟩
      · exact .inr ⟨g1, g2⟩
    · exact ⟨ws, rfl, .inr ⟨r', off, cap, row, cs₀, h2, mem_set hi hmem e, hrd, hcut, hcase⟩⟩
theorem SV.ch (hi : Z[i]? = some (r, .cells tT c0)) (h0 : allS c0) (hl : c1.length = c0.length) {a : Value} {n sz : Nat} {cs : List Value} (h : SV sz (Z ++ B) a n cs) (hc : ∀ c t, cs = c :: t → ¬ ∃ s : List UInt8, c = .string ⟨⟨s⟩⟩) : SV sz (Z.set i (r, .cells tT c1) ++ B) a n cs := by
  rcases h with h2 | ⟨r', off, cap, row, cs₀, h2, hmem, hrd, hcut⟩
  · exact .inl h2
  · by_cases e : (r', row) = (r, ARow.cells tT c0)
    · obtain ⟨rfl, rfl⟩ := Prod.mk.inj e
      obtain rfl : c0 = cs₀ := Option.some.inj hrd
      obtain ⟨e1, e2, e3, e4⟩ := cut_eq hcut
      cases cs with
      | cons c t =>
        have hm : c ∈ c0 := List.mem_of_mem_drop (List.mem_of_mem_take (by rw [← e1]; simp))
        exact absurd (h0 c hm) (hc c t rfl)
      | nil =>
        have hz : n * sz = 0 := e3.symm
        refine .inr ⟨r', off, cap, _, c1, h2, mem_new hi, rfl, ?_⟩
        rw [hz, cut_of (by rw [hl]; omega)]; simp
    · exact .inr ⟨r', off, cap, row, cs₀, h2, mem_set hi hmem e, hrd, hcut⟩
def Like (l l' : List It) : Prop := l'.map (·.args.length) = l.map (·.args.length)
theorem Like.len {l l' : List It} (h : Like l l') : l'.length = l.length := by have := congrArg List.length h; simpa using this
theorem ItsR.ch (hi : Z[i]? = some (r, .cells tT c0)) (h0 : allS c0) (h1 : allS c1) (hl : c1.length = c0.length) : ∀ {l : List It} {cs : List Value}, ItsR (Z ++ B) l cs → ∃ l', Like l l' ∧ ItsR (Z.set i (r, .cells tT c1) ++ B) l' cs
  | [], cs, h => ⟨[], rfl, h⟩
  | x :: l, _, ⟨a, cs', e1, h2, h3⟩ => by
    obtain ⟨l', g1, g2⟩ := ItsR.ch hi h0 h1 hl h3
    obtain ⟨ws', k1, k2⟩ := WO.ch hi h0 h1 hl h2
    refine ⟨⟨x.no, x.word, ws'⟩ :: l', ?_, a, cs', e1, by rw [← k1] at k2; exact k2, g2⟩
    unfold Like at g1 ⊢
    simp [k1, g1]
theorem its_head {l : List It} {M : RL} {cs : List Value} (h : ItsR M l cs) : ∀ c t, cs = c :: t → ¬ ∃ s : List UInt8, c = .string ⟨⟨s⟩⟩ := by
  rintro c t rfl ⟨s, rfl⟩
  cases l with
  | nil => cases h
  | cons x l => obtain ⟨a, cs', e, _⟩ := h; cases e
theorem secs_head {l : List Se} {M : RL} {cs : List Value} (h : SecsR M l cs) : ∀ c t, cs = c :: t → ¬ ∃ s : List UInt8, c = .string ⟨⟨s⟩⟩ := by
  rintro c t rfl ⟨s, rfl⟩
  cases l with
  | nil => cases h
  | cons x l => obtain ⟨a, b, cs', e, _⟩ := h; cases e
def LikeS (l l' : List Se) : Prop := l'.map (fun s => s.items.map (·.args.length)) = l.map (fun s => s.items.map (·.args.length))
theorem SecsR.ch (hi : Z[i]? = some (r, .cells tT c0)) (h0 : allS c0) (h1 : allS c1) (hl : c1.length = c0.length) : ∀ {l : List Se} {cs : List Value}, SecsR (Z ++ B) l cs → ∃ l', LikeS l l' ∧ SecsR (Z.set i (r, .cells tT c1) ++ B) l' cs
  | [], cs, h => ⟨[], rfl, h⟩
  | y :: l, _, ⟨iv, ics, cs', e1, ⟨h2, h3⟩, h4⟩ => by
    obtain ⟨l', g1, g2⟩ := SecsR.ch hi h0 h1 hl h4
    obtain ⟨is', k1, k2⟩ := ItsR.ch hi h0 h1 hl h3
    have hk := k1.len
    refine ⟨⟨y.no, y.kind, y.name, is'⟩ :: l', ?_, iv, ics, cs', e1, ⟨?_, k2⟩, g2⟩
    · unfold LikeS at g1 ⊢
      unfold Like at k1
      simp only [List.map_cons, g1, k1]
    · rw [← hk] at h2
      exact SV.ch hi h0 hl h2 (its_head h3)
end
theorem ItsR.chs {B Z Z' : RL} (h : Ch Z Z') {l : List It} {v : Value} {n : Nat} {cs : List Value} (hv : SV 3 (Z ++ B) v n cs) (hI : ItsR (Z ++ B) l cs) : ∃ l', Like l l' ∧ SV 3 (Z' ++ B) v n cs ∧ ItsR (Z' ++ B) l' cs := by
  induction h with
  | refl => exact ⟨l, rfl, hv, hI⟩
  | step _ hi h0 h1 hl ih =>
    obtain ⟨l', g1, g2, g3⟩ := ih
    obtain ⟨l2, k1, k2⟩ := ItsR.ch hi h0 h1 hl g3
    exact ⟨l2, by unfold Like at *; rw [k1, g1], SV.ch hi h0 hl g2 (its_head g3), k2⟩
theorem SecsR.chs {B Z Z' : RL} (h : Ch Z Z') {l : List Se} {v : Value} {n : Nat} {cs : List Value} (hv : SV 4 (Z ++ B) v n cs) (hI : SecsR (Z ++ B) l cs) : ∃ l', LikeS l l' ∧ SV 4 (Z' ++ B) v n cs ∧ SecsR (Z' ++ B) l' cs := by
  induction h with
  | refl => exact ⟨l, rfl, hv, hI⟩
  | step _ hi h0 h1 hl ih =>
    obtain ⟨l', g1, g2, g3⟩ := ih
    obtain ⟨l2, k1, k2⟩ := SecsR.ch hi h0 h1 hl g3
    exact ⟨l2, by unfold LikeS at *; rw [k1, g1], SV.ch hi h0 hl g2 (secs_head g3), k2⟩
end Go.Proofs.YtllcbjaajffaeaaGreatDoor
