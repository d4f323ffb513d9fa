/- bastionlaw01.CodeCuts answers true: of things laid one behind the other, cut anywhere, those that are whole are told, then the next one fails. -/
import Derived.Test.YtnfenpkkhkdkhaaLf
namespace Go.Proofs.Ytnfenpkkhkdkhaa
open Go.Am
set_option linter.unusedVariables false
set_option maxRecDepth 20000

theorem eq_told (n m : Int) (s t : List UInt8) : eqB Try.prog 100 36 (toldV (n, s)) (toldV (m, t)) = some (decide ((n, s) = (m, t))) := by
  have key : eqB Try.prog 100 36 (toldV (n, s)) (toldV (m, t)) = (match (if IntKind.i64 = IntKind.i64 then some (ieqB n m) else none) with | some true => (match some (bytesEq s t) with | some true => some true | r => r) | r => r) := by
    kernel_rfl
  rw [key, if_pos rfl, ieqB_eq, bytesEq_eq]
  by_cases h1 : n = m <;> by_cases h2 : s = t <;> simp [h1, h2]
theorem guard_told : Try.prog.eqGuardType Try.prog.depth 36 = false := by kernel_rfl
theorem e_eqTold {a : Slots} {o : Oper} {x y : Operand} {z : TypeId} {p q : Int × List UInt8} (ho : o.op = .binOp .eql 36 x y z) (hx : aev a x = some (toldV p)) (hy : aev a y = some (toldV q)) : ∀ h, opB Try.prog a o h = some (.val (.bool (decide (p = q))) h) := by
  intro h
  have e : binB Try.prog .eql 36 (toldV p) (toldV q) = some (.bool (decide (p = q))) := by
    have := eq_told p.1 q.1 p.2 q.2
    show (match eqB Try.prog 100 36 (toldV p) (toldV q) with | some b => some (Value.bool b) | none => none) = _
    rw [show toldV p = toldV (p.1, p.2) from rfl, show toldV q = toldV (q.1, q.2) from rfl, this]
  have g : eqOk Try.prog .eql 36 x y (toldV p) (toldV q) = true := by
    show (!(Try.prog.eqGuardType Try.prog.depth 36)) = true
    rw [guard_told]; rfl
  simp only [opB, ho, hx, hy, g, e, ret]
theorem e_neTold {a : Slots} {o : Oper} {x y : Operand} {z : TypeId} {p q : Int × List UInt8} (ho : o.op = .binOp .neq 36 x y z) (hx : aev a x = some (toldV p)) (hy : aev a y = some (toldV q)) : ∀ h, opB Try.prog a o h = some (.val (.bool (!decide (p = q))) h) := by
  intro h
  have e : binB Try.prog .neq 36 (toldV p) (toldV q) = some (.bool (!decide (p = q))) := by
    have := eq_told p.1 q.1 p.2 q.2
    show (match eqB Try.prog 100 36 (toldV p) (toldV q) with | some b => some (Value.bool (!b)) | none => none) = _
    rw [show toldV p = toldV (p.1, p.2) from rfl, show toldV q = toldV (q.1, q.2) from rfl, this]
  have g : eqOk Try.prog .neq 36 x y (toldV p) (toldV q) = true := by
    show (!(Try.prog.eqGuardType Try.prog.depth 36)) = true
    rw [guard_told]; rfl
  simp only [opB, ho, hx, hy, g, e, ret]

/-! ### What a reader tells of a thing that is there, whole or cut -/
theorem gat_cut {p : List UInt8} {u : Nat} (hu : u < 18446744073709551616) (hp : p <+: grp u) (hl : p.length < (grp u).length) : gat p = (0, 0) := by
  rcases gat_inv p with h | ⟨v, hv, _, hlt⟩
  · exact h
  · have h1 := gat_some hu (List.prefix_refl (grp u))
    have h2 := gat_some hlt (hv.trans hp)
    rw [h1] at h2
    have h3 : (grp u).length = (grp v).length := congrArg Prod.snd h2
    have := hv.length_le
    omega
theorem gat_whole {rest : List UInt8} {u : Nat} (hu : u < 18446744073709551616) : gat (grp u ++ rest) = (u, (grp u).length) := gat_some hu (List.prefix_append _ _)
/-- What is asked for: a text by its length. -/
def Th.asking (t : Th) : Th := if t.k = 2 then ⟨t.k, (t.s.data.toList.length : Nat), t.s⟩ else t
def Th.want (t : Th) : Int × List UInt8 := if t.k = 2 then (0, t.s.data.toList) else if 2 < t.k.toNat then (if t.n.tmod 2 ≠ 0 then 1 else 0, []) else (t.n, [])
def Th.mayBe (t : Th) : Prop := t.k = 1 → 0 ≤ t.n ∧ t.n ≤ 2147483647
theorem k_big {k : UInt8} (h0 : k ≠ 0) (h1 : k ≠ 1) (h2 : k ≠ 2) : 2 < k.toNat := by
  have := k.toNat_lt
  have e0 : k.toNat ≠ 0 := fun h => h0 (UInt8.toNat_inj.1 h)
  have e1 : k.toNat ≠ 1 := fun h => h1 (UInt8.toNat_inj.1 h)
  have e2 : k.toNat ≠ 2 := fun h => h2 (UInt8.toNat_inj.1 h)
  omega

theorem askS_whole (t : Th) (ht : t.ok) (hm : t.mayBe) (hs : t.s.data.toList.length ≤ 200000) (rest : List UInt8) : askS t.asking (t.enc ++ rest, false) = (t.want, (rest, false)) := by
  obtain ⟨k, m, s⟩ := t
  obtain ⟨h0, h1, _⟩ := ht
  simp only at h0 h1 hs
  simp only [Th.mayBe] at hm
  by_cases k0 : k = 0
  · subst k0
    have hz := zig_lt h0 h1
    simp only [askS, Th.asking, Th.enc, Th.want, if_pos, if_neg (show ¬ (0 : UInt8) = 2 by decide), if_neg (show ¬ 2 < (0 : UInt8).toNat by decide), gat_whole hz, unz_zig]
    rw [tk_some (by have := grp_pos (zig m); omega)]
    simp
  by_cases k1 : k = 1
  · subst k1
    obtain ⟨m0, m1⟩ := hm rfl
    have hc : cnt m = grp m.toNat := by unfold cnt; rw [if_pos ⟨m0, m1⟩]
    have hg := gat_whole (rest := rest) (u := m.toNat) (by omega)
    have ha : cAt (grp m.toNat ++ rest) m = (m.toNat, (grp m.toNat).length) := by rw [cAt_yes m0 (by rw [hg]; simp only; omega) (by rw [hg]; simp only; omega), hg]
    simp only [askS, Th.asking, Th.enc, Th.want, if_pos, if_neg k0, if_neg (show ¬ (1 : UInt8) = 2 by decide), if_neg (show ¬ 2 < (1 : UInt8).toNat by decide), hc, ha]
    rw [tk_some (by have := grp_pos m.toNat; omega)]
    simp
    omega
  by_cases k2 : k = 2
  · subst k2
    generalize hls : s.data.toList = l at *
    have hc : cnt (l.length : Int) = grp l.length := by unfold cnt; rw [if_pos (by omega)]; rfl
    have hg := gat_whole (rest := l ++ rest) (u := l.length) (by omega)
    have ha : cAt (grp l.length ++ (l ++ rest)) (l.length : Nat) = (l.length, (grp l.length).length) := by rw [cAt_yes (by omega) (by rw [hg]; simp only; omega) (by rw [hg]; simp only; omega), hg]
    have hp := grp_pos l.length
    have hsat : sAt (grp l.length ++ (l ++ rest)) (l.length : Nat) = (l, (grp l.length).length + l.length) := by
      have hl2 : (grp l.length ++ (l ++ rest)).length = (grp l.length).length + (l.length + rest.length) := by simp
      rw [sAt_eq ha, if_neg (by omega)]
      simp
    simp only [askS, Th.asking, Th.enc, Th.want, if_pos, if_neg k0, if_neg k1, hls, hc, List.append_assoc, hsat]
    rw [tk_some (by omega)]
    simp [← List.drop_drop]
  · have hb := k_big k0 k1 k2
    simp only [askS, Th.asking, Th.enc, Th.want, if_neg k0, if_neg k1, if_neg k2, if_pos hb]
    by_cases ho : m.tmod 2 ≠ 0
    · rw [if_pos ho]
      have : fAt ([(1 : UInt8)] ++ rest) = (true, 1) := rfl
      rw [this, tk_some (by decide)]
      simp [ho]
    · rw [if_neg ho]
      have : fAt ([(0 : UInt8)] ++ rest) = (false, 1) := rfl
      rw [this, tk_some (by decide)]
      simp [ho]

theorem askS_cut (t : Th) (ht : t.ok) (hm : t.mayBe) (hs : t.s.data.toList.length ≤ 200000) {p : List UInt8} (hp : p <+: t.enc) (hl : p.length < t.enc.length) : askS t.asking (p, false) = ((0, []), ([], true)) := by
  obtain ⟨k, m, s⟩ := t
  obtain ⟨h0, h1, _⟩ := ht
  simp only at h0 h1 hs
  simp only [Th.mayBe] at hm
  by_cases k0 : k = 0
  · subst k0
    have hz := zig_lt h0 h1
    simp only [Th.enc, if_pos] at hp hl
    simp only [askS, Th.asking, if_pos, if_neg (show ¬ (0 : UInt8) = 2 by decide), gat_cut hz hp hl, tk_none]
  by_cases k1 : k = 1
  · subst k1
    obtain ⟨m0, m1⟩ := hm rfl
    have hc : cnt m = grp m.toNat := by unfold cnt; rw [if_pos ⟨m0, m1⟩]
    simp only [Th.enc, if_pos, if_neg k0, hc] at hp hl
    have hg := gat_cut (by omega) hp hl
    have ha : cAt p m = (0, 0) := by rw [cAt_yes m0 (by rw [hg]; simpa using m0) (by rw [hg]; simp), hg]
    simp only [askS, Th.asking, if_pos, if_neg k0, if_neg (show ¬ (1 : UInt8) = 2 by decide), ha, tk_none]
  by_cases k2 : k = 2
  · subst k2
    generalize hls : s.data.toList = l at *
    have hc : cnt (l.length : Int) = grp l.length := by unfold cnt; rw [if_pos (by omega)]; rfl
    simp only [Th.enc, if_pos, if_neg k0, if_neg k1, hls, hc] at hp hl
    have hsat : sAt p (l.length : Nat) = ([], 0) := by
      by_cases hlt : p.length < (grp l.length).length
      · have hpp : p <+: grp l.length := List.prefix_of_prefix_length_le hp (List.prefix_append _ _) (by omega)
        have hg := gat_cut (by omega) hpp hlt
        have ha : cAt p (l.length : Nat) = (0, 0) := by rw [cAt_yes (by omega) (by rw [hg]; simp only; omega) (by rw [hg]; simp), hg]
        rw [sAt_eq ha, if_pos (.inl rfl)]
      · have hpp : grp l.length <+: p := List.prefix_of_prefix_length_le (List.prefix_append _ _) hp (by omega)
        have hg := gat_some (u := l.length) (by omega) hpp
        have ha : cAt p (l.length : Nat) = (l.length, (grp l.length).length) := by rw [cAt_yes (by omega) (by rw [hg]; simp only; omega) (by rw [hg]; simp only; omega), hg]
        rw [List.length_append] at hl
        rw [sAt_eq ha, if_pos (.inr hl)]
    simp only [askS, Th.asking, if_pos, if_neg k0, if_neg k1, hls, hsat, tk_none]
  · simp only [Th.enc, if_neg k0, if_neg k1, if_neg k2] at hp hl
    have : p = [] := by
      have : p.length = 0 := by simpa using hl
      exact List.eq_nil_of_length_eq_zero this
    subst this
    simp only [askS, Th.asking, if_neg k0, if_neg k1, if_neg k2, fAt, tk_none]
    rfl
end Go.Proofs.Ytnfenpkkhkdkhaa
