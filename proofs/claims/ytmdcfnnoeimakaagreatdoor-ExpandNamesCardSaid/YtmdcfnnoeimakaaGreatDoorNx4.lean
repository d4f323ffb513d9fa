/- ExpandNames: piece 4, its second round of a closed run. -/
import Derived.Test.YtmdcfnnoeimakaaGreatDoorNy
namespace Go.Proofs.YtmdcfnnoeimakaaGreatDoor
open Go.Am
set_option maxRecDepth 20000
theorem s42_run : rndF Tryz.prog xtP knownP 1000 60 Tryz.f3.ntmps [] x4 s41 = some s42 := by kernel_rfl
theorem st4_run : extF Tryz.prog xtP knownP 1000 60 Tryz.f3.ntmps [] 2 x4 s42 = some st4 := by kernel_rfl
end Go.Proofs.YtmdcfnnoeimakaaGreatDoor
