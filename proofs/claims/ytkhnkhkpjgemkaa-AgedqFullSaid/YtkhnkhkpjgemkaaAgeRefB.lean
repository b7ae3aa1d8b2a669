/- Stage 14: the document's Ahead. -/
import Derived.Test.YtkhnkhkpjgemkaaAgeRefA
namespace Go.Proofs.Ytkhnkhkpjgemkaa
open Go.RowKit

end Go.Proofs.Ytkhnkhkpjgemkaa
