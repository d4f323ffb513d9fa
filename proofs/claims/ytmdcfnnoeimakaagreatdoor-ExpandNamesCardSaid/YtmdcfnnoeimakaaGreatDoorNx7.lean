/- ExpandNames: piece 7 of a closed run. -/
import Derived.Test.YtmdcfnnoeimakaaGreatDoorNy
namespace Go.Proofs.YtmdcfnnoeimakaaGreatDoor
open Go.Am
set_option maxRecDepth 20000
theorem st7_run : cutF Tryz.prog xtP knownP 1000 60 Tryz.f3.ntmps 6 [5246, 5247, 6320, 6423, 6435, 6536, 6801, 6951, 7062] nb6 st6 = some st7 := by kernel_rfl
end Go.Proofs.YtmdcfnnoeimakaaGreatDoor
