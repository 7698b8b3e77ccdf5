/-
  What the document's cursor answers: Byte. Conditions: where there is no error, the bytes can be read.
-/
import Derived.Test.YtkibbhkdeepnlaaRefInt
namespace Go.Proofs.Ytkibbhkdeepnlaa
open Go.RowKit

end Go.Proofs.Ytkibbhkdeepnlaa
