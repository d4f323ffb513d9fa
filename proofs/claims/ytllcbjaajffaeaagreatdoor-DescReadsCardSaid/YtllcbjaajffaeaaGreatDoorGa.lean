namespace Go.Proofs.YtllcbjaajffaeaaGreatDoor
set_option linter.unusedVariables false
abbrev Pc := Bool × (UInt8 → Bool)
def spanM (ok : UInt8 → Bool) (f : List UInt8 → Bool) : List UInt8 → Bool
  | [] => f []
  | c :: s => f (c :: s) || (ok c && spanM ok f s)
def ms : List Pc → List UInt8 → Bool
  | [], s => s.isEmpty
  | (true, ok) :: p, s => spanM ok (ms p) s
  | (false, _) :: _, [] => false
  | (false, ok) :: p, c :: s => ok c && ms p s
def shown (c : UInt8) : Bool := decide (33 ≤ c.toNat ∧ c.toNat ≤ 126)
def chk (p : List UInt8) : Int := if 64 < p.length then 40 else if p = [] then 4 else if p.all shown then 0 else 4
theorem take_snoc {s : List UInt8} {k : Nat} {c : UInt8} (h : s[k]? = some c) : s.take (k + 1) = s.take k ++ [c] := by
  rw [List.take_add_one, h]; rfl
end Go.Proofs.YtllcbjaajffaeaaGreatDoor
