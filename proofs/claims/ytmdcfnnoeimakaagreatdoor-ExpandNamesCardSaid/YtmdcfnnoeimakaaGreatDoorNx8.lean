/- ExpandNames: piece 8, the last one of a closed run. -/
import Derived.Test.YtmdcfnnoeimakaaGreatDoorNy
namespace Go.Proofs.YtmdcfnnoeimakaaGreatDoor
open Go.Am
set_option maxRecDepth 20000
theorem st8_run : cutF Tryz.prog xtP knownP 1000 60 Tryz.f3.ntmps 2 [5246, 5247, 6320, 6423, 6435, 6536, 6801, 6951, 7062, 7414, 7965, 7982, 7990, 7996, 8002, 8004, 8008] nb7 st7 = some st8 := by kernel_rfl
theorem st9_run : Am.endF Tryz.prog xtP knownP 1000 60 Tryz.f3.ntmps Tryz.f3.results.toList nb8 st8 = true := by kernel_rfl
end Go.Proofs.YtmdcfnnoeimakaaGreatDoor
