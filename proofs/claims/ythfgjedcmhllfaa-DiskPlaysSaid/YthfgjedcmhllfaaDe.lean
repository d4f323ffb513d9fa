/- Layer 3: what blocks are full of; a whole number as one without a sign. -/
import Derived.Test.YthfgjedcmhllfaaDc
namespace Go.Am
variable {P : Program} {o : Oper} {a : Slots} {x : Operand}
/-- A whole number, taken as one without a sign. -/
def un (n : Int) : Nat := (n % 18446744073709551616).toNat
theorem un_lt (n : Int) : un n < 18446744073709551616 := by unfold un; omega
theorem e_convU {src dst : TypeId} {n : Int} (ho : o.op = .convert src dst x) (hx : aev a x = some (.int .i64 n)) (hs : P.underlying src = some (.int .i64)) (hd : P.underlying dst = some (.int .u64)) : ∀ h, opB P a o h = some (.val (.int .u64 (un n : Nat)) h) := by
  intro h
  have e : wrapB .u64 n = (un n : Nat) := by rw [wrapB_eq, wrap_u64]; unfold un; omega
  simp only [opB, ho, hx, convB, hs, hd, e, ret2]
end Go.Am
namespace Go.Proofs.Ythfgjedcmhllfaa
open Go.Am
set_option linter.unusedVariables false
set_option maxRecDepth 20000

/-- What each block should be full of, as whole numbers. -/
abbrev wc (ws : List UInt8) : List Value := ws.map fun c => .int .i64 (c.toNat : Nat)
/-- The disk behind i writes, cut behind n. -/
def St (n i : Nat) (D : List UInt8) : Dk := if i ≤ n then ⟨512, D, i, true, n - i, false⟩ else ⟨512, D, n, true, 0, true⟩
theorem St_le {n i : Nat} {D : List UInt8} (h : i ≤ n) : St n i D = ⟨512, D, i, true, n - i, false⟩ := if_pos h
theorem St_gt {n i : Nat} {D : List UInt8} (h : n < i) : St n i D = ⟨512, D, n, true, 0, true⟩ := if_neg (by omega)
def Full (D : List UInt8) (ws : List UInt8) : Prop := ws.length = 512 ∧ D.length = 512 * 256 ∧ ∀ j c, ws[j]? = some c → blk D j = List.replicate 256 c
theorem Full.set {D ws : List UInt8} (h : Full D ws) {k : Nat} (hk : k < 512) (c : UInt8) : Full (put D k (List.replicate 256 c)) (ws.set k c) := by
  obtain ⟨h1, h2, h3⟩ := h
  refine ⟨by rw [List.length_set, h1], put_len h2 hk List.length_replicate, fun j d hj => ?_⟩
  by_cases e : j = k
  · subst e
    rw [List.getElem?_set_self (by omega)] at hj
    cases hj
    exact blk_put_same h2 hk List.length_replicate
  · rw [List.getElem?_set_ne (by omega)] at hj
    rw [blk_put_ne h2 hk List.length_replicate e]
    exact h3 j d hj
theorem wc_set {ws : List UInt8} (h : ws.length = 512) {k : Nat} (hk : k < 512) (c : UInt8) : lay (wc ws) (0 + k * 1) [.int .i64 (c.toNat : Nat)] = some (wc (ws.set k c)) := by
  rw [lay_of (by simp; omega), show 0 + k * 1 = k by omega]
  unfold wc
  rw [List.map_set, List.set_eq_take_append_cons_drop, if_pos (by simp; omega)]
  rfl
theorem makeT_ints : makeT Try.prog 54 = some (3, 1, 8, [.int .i64 0]) := by kernel_rfl
theorem repL_ints {n : Nat} : repL [Value.int .i64 0] n = wc (List.replicate n 0) := by
  simp [repL, wc, List.flatten_replicate_singleton]
theorem Full.zeros : Full (List.replicate (512 * 256) 0) (List.replicate 512 0) := by
  refine ⟨List.length_replicate, List.length_replicate, fun j c h => ?_⟩
  rw [List.getElem?_replicate] at h
  split at h
  · cases h; exact blk_zeros (by assumption)
  · cases h
theorem u8_of {i : Nat} (h : i < 255) : ((i : Nat) : Int) + 1 = ((UInt8.ofNat (i + 1)).toNat : Nat) := by
  rw [show (UInt8.ofNat (i + 1)).toNat = i + 1 by simp; omega]; omega

theorem u8_get {ws : List UInt8} {j : Nat} {c : UInt8} (h : ws[j]? = some c) : (wc ws)[0 + j * 1]? = some (.int .i64 (c.toNat : Nat)) := by
  rw [show 0 + j * 1 = j by omega, List.getElem?_map, h]; rfl
end Go.Proofs.Ythfgjedcmhllfaa
