import Derived.Test.YtllcbjaajffaeaaGreatDoorYg
namespace Go.Am
section
variable {P : Program} {o : Oper} {a : Slots} {L L₁ : RL} {t e : TypeId} {x y z : Operand}
end
end Go.Am
