/- What is wanted besides of the machine over listed rows: parts of lists, copies within a row. -/
import Derived.Test.YtmdcfnnoeimakaaGreatDoorYg
namespace Go.Am
section
variable {P : Program} {o : Oper} {a : Slots} {L L₁ : RL} {t e : TypeId} {x y z : Operand}
/-- A part of a list whose capacity is known. -/
theorem e_sliceC {lo hi : Option Operand} {lo' hi' : Option Value} {r off n c sz l u : Nat} (ho : o.op = .slice t x lo hi none) (hx : aev a x = some (.slice (some ⟨r, off, none⟩) n c)) (hlo : optEv a lo = some lo') (hhi : optEv a hi = some hi') (bl : boundB lo' 0 = some l) (bu : boundB hi' n = some u)
    (ht : P.underlying t = some (.slice e)) (hz : sizeB P e = some sz) (hu : u ≤ c) (hl : l ≤ u) (hc : c < openCap) : ∀ h, opB P a o h = some (.val (.slice (some ⟨r, off + l * sz, none⟩) (u - l) (c - l)) h) := by
  intro h
  have hm : optEv a none = some none := rfl
  have h2 : Nat.ble l u = true := Nat.ble_eq_true_of_le hl
  have hcb : Nat.beq c openCap = false := beq_false (by omega)
  have h1 : Nat.ble u (farB n c) = true := by unfold farB; rw [hcb]; exact Nat.ble_eq_true_of_le hu
  have h3 : rowOk h e (some ⟨r, off, none⟩) c = true := by unfold rowOk; rw [hcb]; exact Nat.ble_eq_true_of_le (by omega)
  simp only [opB, ho, hx, hlo, hhi, hm, sliceB, ht, bu, bl, hz, h1, h2, h3, Bool.true_and, moved, hcb, ret]
/-- The first elements of such a one. -/
theorem e_sliceC0 {hi : Operand} {k : IntKind} {r off n c sz u : Nat} (ho : o.op = .slice t x none (some hi) none) (hx : aev a x = some (.slice (some ⟨r, off, none⟩) n c)) (hhi : aev a hi = some (.int k (u : Nat)))
    (ht : P.underlying t = some (.slice e)) (hz : sizeB P e = some sz) (hu : u ≤ c) (hc : c < openCap) : ∀ h, opB P a o h = some (.val (.slice (some ⟨r, off, none⟩) u c) h) := by
  have := e_sliceC (P := P) (lo := none) (hi := some hi) (lo' := none) (hi' := some (.int k (u : Nat))) (l := 0) (u := u) ho hx rfl (by simp only [optEv, hhi]) rfl bound_nat ht hz hu (Nat.zero_le _) hc
  simpa using this
/-- Those from l on. -/
theorem e_sliceC1 {lo : Operand} {k : IntKind} {r off n c l : Nat} (ho : o.op = .slice t x (some lo) none none) (hx : aev a x = some (.slice (some ⟨r, off, none⟩) n c)) (hlo : aev a lo = some (.int k (l : Nat)))
    (ht : P.underlying t = some (.slice e)) (hz : sizeB P e = some 1) (hn : n ≤ c) (hl : l ≤ n) (hc : c < openCap) : ∀ h, opB P a o h = some (.val (.slice (some ⟨r, off + l, none⟩) (n - l) (c - l)) h) := by
  have := e_sliceC (P := P) (lo := some lo) (hi := none) (lo' := some (.int k (l : Nat))) (hi' := none) (l := l) (u := n) ho hx (by simp only [optEv, hlo]) rfl bound_nat rfl ht hz hn hl hc
  simpa using this
theorem e_sliceO1 (i : Nat) {lo : Operand} {k : IntKind} {r off n l : Nat} {cs : List Value} (ho : o.op = .slice t x (some lo) none none) (hx : aev a x = some (.slice (some ⟨r, off, none⟩) n openCap)) (hlo : aev a lo = some (.int k (l : Nat)))
    (ht : P.underlying t = some (.slice e)) (hz : sizeB P e = some 1) (hl : l ≤ n) (hL : L[i]? = some (r, .cells e cs)) : ∀ h, Has h L → opB P a o h = some (.val (.slice (some ⟨r, off + l, none⟩) (n - l) openCap) h) := by
  have := e_slice (P := P) i (lo := some lo) (hi := none) (lo' := some (.int k (l : Nat))) (hi' := none) (l := l) (u := n) ho hx (by simp only [optEv, hlo]) rfl bound_nat rfl ht hz (Nat.le_refl _) hl hL
  simpa using this
/-- Elements copied from one row to a place in another one, or in the same. -/
theorem e_copyG (i : Nat) {c : Call} {st e' : TypeId} {sz m N k r off cap r2 o2 c2 : Nat} {row2 : ARow} {cs cs2 new cs' : List Value} (ho : o.op = .call c) (hc : c.callee = .builtin .copy) (ha : evs a c.args.toList = some [.slice (some ⟨r, off, none⟩) N cap, .slice (some ⟨r2, o2, none⟩) m c2])
    (ht : c.argTypes[0]? = some st) (hu : P.underlying st = some (.slice e)) (hz : sizeB P e = some sz) (hk : Nat.min m N = k) (hpos : 0 < k) (hm2 : (r2, row2) ∈ L) (hr2 : rdRow row2 = some cs2) (hcut : cut cs2 o2 (k * sz) = some new) (hone : allOne new = true)
    (hL : L[i]? = some (r, .cells e' cs)) (hlay : lay cs off new = some cs') (hset : setL L i (r, .cells e' cs') = some L₁) : ∀ h, Has h L → ∃ h₁, opB P a o h = some (.val (.int .i64 (k : Nat)) h₁) ∧ Has h₁ L₁ := by
  intro h H
  obtain ⟨h₁, e₁⟩ := h.put_some r (some (.cells e' cs'))
  have := setL_eq hset
  subst this
  subst hk
  have hb : Nat.beq (Nat.min m N) 0 = false := beq_false (by omega)
  have hl1 : lenB (.slice (some ⟨r2, o2, none⟩) m c2) = some m := rfl
  have hnt : notText (.slice (some ⟨r2, o2, none⟩) m c2) = true := rfl
  have hf : firstB sz (Nat.min m N) (.slice (some ⟨r2, o2, none⟩) m c2) h = some new := by simp only [firstB, hb, H.mem hm2 hr2, hcut]
  refine ⟨h₁, ?_, H.put hL e₁⟩
  simp only [opB, ho, ha, callOpB, hc, copyB, ht, hu, hz, hl1, hf, hone, hnt, hb, H.row hL, hlay, e₁, Bool.true_or, Bool.and_self, ret2, goInt]
end
end Go.Am
