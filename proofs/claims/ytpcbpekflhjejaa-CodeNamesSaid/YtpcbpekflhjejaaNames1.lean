/- The walk of bastionlaw01.CodeNames: the abstract machine answers true. -/
import Derived.Test.YtpcbpekflhjejaaAmD
import Derived.Test.YtpcbpekflhjejaaProg
import Derived.KernelRfl
namespace Go.Proofs.Ytpcbpekflhjejaa
open Go.RowKit

theorem noGo : Am.noGo Try.prog = true := by kernel_rfl
theorem mixed : Try.prog.follows .mixedOrders = true := by kernel_rfl

set_option maxRecDepth 100000 in
theorem names_true : Am.answersTrue Try.prog Am.nothing 1000 50 3 = true := by kernel_rfl

theorem names_walk (w : World) : Calls Try.prog 3 #[] w fun e w' => e = .returned (.bool true) ∧ Below w.heap.size w w' :=
  Am.closed_true noGo mixed Am.nothing_sound names_true w
end Go.Proofs.Ytpcbpekflhjejaa
