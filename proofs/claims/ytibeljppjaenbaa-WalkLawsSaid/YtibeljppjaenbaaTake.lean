/- The walk of num.take: it reads the text of a number, in base 10 or 16. -/
import Derived.Test.YtibeljppjaenbaaNumA
import Derived.Test.YtibeljppjaenbaaTakeMath
import Derived.Test.YtibeljppjaenbaaShelf
import Derived.Deep.QuietTactic
import Derived.BigQuiet
import Derived.Lib.Strings
import Derived.Test.YtibeljppjaenbaaRegion
namespace Go.Proofs.Ytibeljppjaenbaa
open Go.RowKit

def TakeEnds (b most : Nat) (s : ByteArray) (w : World) (e : Ending) (w' : World) : Prop :=
  ∃ (v : Nat) (ok : Bool), e = .returned (.tuple #[.int .u64 v, .bool ok]) ∧ TakeIs b most s.data.toList v ok ∧ Below w.heap.size w w'

theorem takeEnds_mk {b most : Nat} {s : ByteArray} {w w' : World} {v : Nat} {ok : Bool} {x : Int} (hx : x = v) (h : TakeIs b most s.data.toList v ok) (hb : Below w.heap.size w w') : TakeEnds b most s w (.returned (.tuple #[.int .u64 x, .bool ok])) w' :=
  ⟨v, ok, by rw [hx], h, hb⟩

theorem ba_get (s : ByteArray) (i : Nat) (h : i < s.size) : s[i]'h = s.data.toList[i]'(by rw [← Lib.size_eq]; exact h) := rfl
theorem ba_head (s : ByteArray) (h : 0 < s.size) : s.data.toList.head? = some (s[0]'h) := by
  rw [ba_get, List.head?_eq_getElem?, List.getElem?_eq_getElem (by rw [← Lib.size_eq]; exact h)]
theorem ba_ne (s : ByteArray) (h : 0 < s.size) : s.toList.isEmpty = false := by
  rw [Lib.toList_data]
  cases h' : s.data.toList with
  | nil => rw [Lib.size_eq, h'] at h; simp at h
  | cons a l => rfl
theorem u8_of_toNat {c d : UInt8} (h : c.toNat = d.toNat) : c = d := UInt8.toNat_inj.1 h

end Go.Proofs.Ytibeljppjaenbaa
