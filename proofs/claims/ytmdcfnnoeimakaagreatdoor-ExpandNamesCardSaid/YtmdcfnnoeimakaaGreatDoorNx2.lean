/- ExpandNames: pieces 2, 3 of a closed run. -/
import Derived.Test.YtmdcfnnoeimakaaGreatDoorNy
namespace Go.Proofs.YtmdcfnnoeimakaaGreatDoor
open Go.Am
set_option maxRecDepth 20000
theorem st2_run : cutF Tryz.prog xtP knownP 1000 60 Tryz.f3.ntmps 1 [] nb1 st1 = some st2 := by kernel_rfl
theorem st3_run : cutF Tryz.prog xtP knownP 1000 60 Tryz.f3.ntmps 3 [] nb2 st2 = some st3 := by kernel_rfl
end Go.Proofs.YtmdcfnnoeimakaaGreatDoor
