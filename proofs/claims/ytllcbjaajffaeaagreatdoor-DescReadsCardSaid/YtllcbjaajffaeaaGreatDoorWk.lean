import Derived.Test.YtllcbjaajffaeaaGreatDoorAmZ
import Derived.Test.YtllcbjaajffaeaaGreatDoorAmK
import Derived.Test.YtllcbjaajffaeaaGreatDoorAmR
import Derived.Test.YtllcbjaajffaeaaGreatDoorChecked
open Go.Proofs
namespace Go.Am
def Bx (p : Prop) : Prop := p
section
variable {P : Program} {ops rest : List Oper} {o : Oper} {a a₁ : Slots} {L L₁ : RL} {v : Value} {K : Slots → RL → Prop} {ms : List Nat} {i : Nat} {sched : List (Nat × Bool)} {dn : List (Nat × Slots × Value)}
end
end Go.Am
