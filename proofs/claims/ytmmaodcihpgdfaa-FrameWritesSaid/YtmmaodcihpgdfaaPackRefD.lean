/- The walks of the document's answers for layer 8: short forms. -/
import Derived.Test.YtmmaodcihpgdfaaPackRefC
namespace Go.Proofs.Ytmmaodcihpgdfaa
open Go.RowKit

theorem varL_ten {x : Nat} (h : x < 18446744073709551616) : (varL x).length ≤ 10 := varL_len 9 x (Nat.lt_of_lt_of_le h (by decide))

end Go.Proofs.Ytmmaodcihpgdfaa
