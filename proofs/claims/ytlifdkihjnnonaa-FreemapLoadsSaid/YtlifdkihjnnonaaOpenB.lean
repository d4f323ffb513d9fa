/- A list of bytes that is handed in. -/
import Derived.Test.YtlifdkihjnnonaaOpen
import Derived.Test.YtlifdkihjnnonaaAmE
namespace Go.Proofs.Ytlifdkihjnnonaa
open Go.Am
theorem bytes_allFlat : ∀ bs : List UInt8, allFlat (bs.map byteV) = true
  | [] => rfl
  | b :: bs => by simp only [List.map_cons, allFlat]; exact bytes_allFlat bs
end Go.Proofs.Ytlifdkihjnnonaa
