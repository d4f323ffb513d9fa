/- ExpandNames: piece 4, its first round of a closed run. -/
import Derived.Test.YtmdcfnnoeimakaaGreatDoorNy
namespace Go.Proofs.YtmdcfnnoeimakaaGreatDoor
open Go.Am
set_option maxRecDepth 20000
theorem nb3_eq : nb3 = .seq (.seq y4 (.block 2 (.loop x4))) nb4 := by kernel_rfl
theorem s40_run : rndF Tryz.prog xtP knownP 1000 60 Tryz.f3.ntmps [] y4 st3 = some s40 := by kernel_rfl
theorem s41_run : rndF Tryz.prog xtP knownP 1000 60 Tryz.f3.ntmps [] x4 s40 = some s41 := by kernel_rfl
end Go.Proofs.YtmdcfnnoeimakaaGreatDoor
