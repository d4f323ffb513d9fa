/- A whole number as one without a sign. -/
import Derived.Test.YthfgjedcmhllfaaAmE
namespace Go.Am
variable {P : Program} {o : Oper} {a : Slots} {x : Operand}
/-- A whole number, taken as one without a sign. -/
def un (n : Int) : Nat := (n % 18446744073709551616).toNat
theorem un_lt (n : Int) : un n < 18446744073709551616 := by unfold un; omega
theorem e_convU {src dst : TypeId} {n : Int} (ho : o.op = .convert src dst x) (hx : aev a x = some (.int .i64 n)) (hs : P.underlying src = some (.int .i64)) (hd : P.underlying dst = some (.int .u64)) : ∀ h, opB P a o h = some (.val (.int .u64 (un n : Nat)) h) := by
  intro h
  have e : wrapB .u64 n = (un n : Nat) := by rw [wrapB_eq, wrap_u64]; unfold un; omega
  simp only [opB, ho, hx, convB, hs, hd, e, ret2]
end Go.Am
