/- Layer 6: the examples, and NodeNames, by running them. -/
import Derived.Test.YtdffhllecojgcaaKn
namespace Go.Proofs.Ytdffhllecojgcaa
open Go.Am
set_option linter.unusedVariables false
set_option maxRecDepth 20000

theorem awake_run : answersTrue Try.prog nothing 3000 60 10 = true := by kernel_rfl
theorem awake_ct {L : RL} : CS Try.prog 10 [] L fun v L' => v = .bool true ∧ L' = L := CS.closed_true noGo mixed awake_run
end Go.Proofs.Ytdffhllecojgcaa
