/- ExpandNames: piece 1 of a closed run. -/
import Derived.Test.YtmdcfnnoeimakaaGreatDoorNy
namespace Go.Proofs.YtmdcfnnoeimakaaGreatDoor
open Go.Am
set_option maxRecDepth 20000
theorem st1_run : cutF Tryz.prog xtP knownP 1000 60 Tryz.f3.ntmps 3 [662] nb0 st0 = some st1 := by kernel_rfl
end Go.Proofs.YtmdcfnnoeimakaaGreatDoor
