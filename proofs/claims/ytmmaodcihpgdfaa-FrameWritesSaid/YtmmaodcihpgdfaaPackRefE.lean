/- The walks of the document's answers for layer 8: the number whose short form bytes begin with. -/
import Derived.Test.YtmmaodcihpgdfaaPackRefD
namespace Go.Proofs.Ytmmaodcihpgdfaa
open Go.RowKit

theorem beq_no8 {a b : Int} (h : a ≠ b) : (a == b) = false := by simpa using h
/-- an error's number -/
def eno (n : Nat) : Int := if n = 0 then 0 else if n = 1 then 4 else 3
/-- what is read of bytes: the number, what is behind it, what is wrong -/
def unvB (l : List UInt8) : Nat × List UInt8 × Int := ((unv 0 0 (nb l)).1, bn (unv 0 0 (nb l)).2.1, eno (unv 0 0 (nb l)).2.2)
theorem nb_drop (l : List UInt8) (j : Nat) (h : j < l.length) : nb (l.drop j) = l[j].toNat :: nb (l.drop (j + 1)) := by
  unfold nb
  rw [List.drop_eq_getElem_cons h]
  rfl

end Go.Proofs.Ytmmaodcihpgdfaa
