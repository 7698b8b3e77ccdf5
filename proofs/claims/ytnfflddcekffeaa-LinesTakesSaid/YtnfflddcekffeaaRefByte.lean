/-
  What the document's cursor answers: Byte. Conditions: where there is no error, the bytes can be read.
-/
import Derived.Test.YtnfflddcekffeaaRefInt
namespace Go.Proofs.Ytnfflddcekffeaa
open Go.RowKit

end Go.Proofs.Ytnfflddcekffeaa
