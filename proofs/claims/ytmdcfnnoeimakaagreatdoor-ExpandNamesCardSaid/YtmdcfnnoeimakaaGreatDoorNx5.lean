/- ExpandNames: piece 5 of a closed run. -/
import Derived.Test.YtmdcfnnoeimakaaGreatDoorNy
namespace Go.Proofs.YtmdcfnnoeimakaaGreatDoor
open Go.Am
set_option maxRecDepth 20000
theorem st5_run : cutF Tryz.prog xtP knownP 1000 60 Tryz.f3.ntmps 1 [5246, 5247] nb4 st4 = some st5 := by kernel_rfl
end Go.Proofs.YtmdcfnnoeimakaaGreatDoor
