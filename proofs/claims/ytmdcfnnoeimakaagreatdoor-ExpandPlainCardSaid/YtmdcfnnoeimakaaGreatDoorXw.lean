/- Layer 13: the examples that each statement asks, by a closed run. -/
import Derived.Test.YtmdcfnnoeimakaaGreatDoorKf
namespace Go.Proofs.YtmdcfnnoeimakaaGreatDoor
open Go.Am
set_option maxRecDepth 20000
theorem works_run : saysF Tryz.prog xtP knownP 1000 60 5 = true := by kernel_rfl
theorem works_ct {L : RL} : CS Tryz.prog 5 [] L fun v L' => v = .bool true ∧ L' = L := CS.saysF noGo mixed xtP_sound knownP_sound works_run
end Go.Proofs.YtmdcfnnoeimakaaGreatDoor
