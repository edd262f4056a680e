/-
  The document's VecMay and Order.
-/
import Derived.Test.YtgbkipadbdochaaVec
namespace Go.Proofs.Ytgbkipadbdochaa
open Go.RowKit
set_option linter.unusedVariables false
set_option linter.unusedSimpArgs false

end Go.Proofs.Ytgbkipadbdochaa
