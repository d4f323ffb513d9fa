/- ExpandNames: piece 6 of a closed run. -/
import Derived.Test.YtmdcfnnoeimakaaGreatDoorNy
namespace Go.Proofs.YtmdcfnnoeimakaaGreatDoor
open Go.Am
set_option maxRecDepth 20000
theorem st6_run : cutF Tryz.prog xtP knownP 1000 60 Tryz.f3.ntmps 1 [5246, 5247, 6320] nb5 st5 = some st6 := by kernel_rfl
end Go.Proofs.YtmdcfnnoeimakaaGreatDoor
