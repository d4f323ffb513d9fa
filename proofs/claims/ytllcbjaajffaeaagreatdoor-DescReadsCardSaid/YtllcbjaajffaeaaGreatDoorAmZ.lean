import Derived.Test.YtllcbjaajffaeaaGreatDoorAmR
import Derived.Test.YtllcbjaajffaeaaGreatDoorAmK
import Derived.Lib.Overlaps
namespace Go.Am
set_option linter.unusedVariables false
section
variable {P : Program}
section
variable {o : Oper} {a a₁ : Slots} {L L₁ : RL} {x y z : Operand} {t z' : TypeId}
end
end
end Go.Am
