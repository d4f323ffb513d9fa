/- Layer 15: the example. -/
import Derived.Test.YteakbbnlkjckhaaGrP
namespace Go.Proofs.Yteakbbnlkjckhaa
open Go.Am Go.Gp
set_option maxRecDepth 20000
theorem works_run : answersTrue Try.prog nothing 1000 50 9 = true := by kernel_rfl
end Go.Proofs.Yteakbbnlkjckhaa
