/- A list of bytes that is handed in. -/
import Derived.Test.YtdffhllecojgcaaOpen
import Derived.Test.YtdffhllecojgcaaAmE
namespace Go.Proofs.Ytdffhllecojgcaa
open Go.Am
theorem bytes_allFlat : ∀ bs : List UInt8, allFlat (bs.map byteV) = true
  | [] => rfl
  | b :: bs => by simp only [List.map_cons, allFlat]; exact bytes_allFlat bs
end Go.Proofs.Ytdffhllecojgcaa
