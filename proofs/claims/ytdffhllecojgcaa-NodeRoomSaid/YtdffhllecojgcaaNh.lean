/- Layer 6: a node that is handed in, as its rows tell. -/
import Derived.Test.YtdffhllecojgcaaNb
import Derived.Test.YtdffhllecojgcaaOpenN
import Derived.Test.YtdffhllecojgcaaOpenB
namespace Go.Proofs.Ytdffhllecojgcaa
open Go.Am
set_option linter.unusedVariables false

theorem nv_of {L : RL} {b : Bool} {u1 u2 u3 : Value} {n1 n2 n3 c1 c2 c3 : Nat} {a1 a2 : List (List UInt8)} {a3 : List Int} (R1 : RO 1 L u1 n1 (a1.map textV)) (R2 : RO 1 L u2 n2 (a2.map textV)) (R3 : RO 1 L u3 n3 (a3.map fun z => Value.int .i64 z))
    (o1 : ∀ s ∈ a1, s.length ≤ 140737488351232) (o2 : ∀ s ∈ a2, s.length ≤ 140737488351232) (x1 : n1 ≤ c1) (x2 : n2 ≤ c2) (x3 : n3 ≤ c3) (y1 : c1 ≤ Go.reachBytes) (y2 : c2 ≤ Go.reachBytes) (y3 : c3 ≤ Go.reachBytes) : NV L ⟨b, a1, a2, a3⟩ u1 u2 u3 := by
  have hr : Go.reachBytes ≤ 9000000000000000 := by decide
  have l1 : a1.length = n1 := by have := R1.sv.len; simpa using this
  have l2 : a2.length = n2 := by have := R2.sv.len; simpa using this
  have l3 : a3.length = n3 := by have := R3.sv.len; simpa using this
  subst l1; subst l2; subst l3
  exact ⟨R1.sv, R2.sv, R3.sv, by show a1.length ≤ _; omega, by show a2.length ≤ _; omega, by show a3.length ≤ _; omega, fun k hk => by have := o1 k hk; omega, fun k hk => by have := o2 k hk; omega⟩
theorem ro_len {L : RL} {u : Value} {n : Nat} {a : List UInt8} (R : RO 1 L u n (byteCells a)) : RO 1 L u a.length (byteCells a) := by
  have : a.length = n := by have := R.sv.len; rw [byteCells_len] at this; omega
  rw [this]
  exact R
theorem ro_small {L : RL} {u : Value} {n c : Nat} {a : List UInt8} (R : RO 1 L u n (byteCells a)) (h1 : n ≤ c) (h2 : c ≤ maxLen) : a.length ≤ 9223372036854775807 := by
  have h := R.sv.len
  rw [byteCells_len] at h
  have h3 : maxLen ≤ 9223372036854775807 := by decide
  omega
end Go.Proofs.Ytdffhllecojgcaa
