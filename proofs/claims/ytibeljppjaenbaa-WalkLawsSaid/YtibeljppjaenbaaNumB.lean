/- The walks of num.Print, Parse, Hex and Unhex. -/
import Derived.Test.YtibeljppjaenbaaTake
import Derived.Test.YtibeljppjaenbaaParseMath
namespace Go.Proofs.Ytibeljppjaenbaa
open Go.RowKit

theorem txt_len (b m : Nat) : (txt b m).size ≤ 20 := by
  rw [Lib.size_eq]
  simpa [txt] using dgs_length b 20 m


theorem neg_u64 (m : Nat) (h : 0 < m) (h' : m ≤ 9223372036854775808) : IntKind.u64.wrap (-IntKind.u64.wrap (-(m : Int))) = (m : Int) := by
  rw [IntKind.wrap_u64, IntKind.wrap_u64]
  omega
theorem neg_i64 (m : Nat) (h' : m ≤ 9223372036854775808) : IntKind.i64.wrap (IntKind.u64.wrap (-(m : Int))) = -(m : Int) := by
  rw [IntKind.wrap_u64, IntKind.wrap_i64]
  omega

set_option maxHeartbeats 400000 in
theorem print_any (n : Int) (w : World) (hn : -9223372036854775808 ≤ n) (hn' : n ≤ 9223372036854775807) :
    Calls Try.prog 58 #[.int .i64 n] w fun e w' => e = .returned (.string ⟨(pl n).toArray⟩) ∧ Below w.heap.size w w' := by
  by_cases h : n < 0
  · obtain ⟨m, rfl⟩ : ∃ m : Nat, n = -m := ⟨n.natAbs, by omega⟩
    have hp := Lib.hid (pow_lt_10 m (by omega))
    have HPL := Lib.hid (pl_neg m (by omega))
    have hw := neg_u64 m (by omega) (by omega)
    have htl := txt_len 10 m
    go_enter Try.func58, Try.ntmps58
    go_wp2_with (go_at_call 70; refine (digits_any m 10 _ (by omega) hp.out (by omega) (by omega)).mono ?_; rintro e w' ⟨rfl, hb⟩)
    go_ret
    refine ⟨?_, hb⟩
    rw [HPL.out]
    rfl
  · obtain ⟨m, rfl⟩ : ∃ m : Nat, n = m := ⟨n.natAbs, by omega⟩
    have hp := Lib.hid (pow_lt_10 m (by omega))
    have HPL := Lib.hid (pl_pos m)
    go_enter Try.func58, Try.ntmps58
    go_wp2_with (go_at_call 70; refine (digits_any m 10 _ (by omega) hp.out (by omega) (by omega)).mono ?_; rintro e w' ⟨rfl, hb⟩)
    go_ret
    refine ⟨?_, hb⟩
    rw [HPL.out]
    rfl

theorem nat_eq_of {v : Nat} (h : ((v : Int) == 0) = true) : v = 0 := by
  have h' := eq_of_beq h
  omega
theorem nat_ne_of {v : Nat} (h : ((v : Int) == 0) = false) : v ≠ 0 := by
  intro e
  rw [e] at h
  exact absurd h (by decide)

def ParseEnds (s : ByteArray) (w : World) (e : Ending) (w' : World) : Prop :=
  ∃ (v : Int) (ok : Bool), e = .returned (.tuple #[.int .i64 v, .bool ok]) ∧ ParseIs s.data.toList v ok ∧ Below w.heap.size w w'

theorem parseEnds_mk {s : ByteArray} {w w' : World} {v x : Int} {ok : Bool} (hx : x = v) (h : ParseIs s.data.toList v ok) (hb : Below w.heap.size w w') : ParseEnds s w (.returned (.tuple #[.int .i64 x, .bool ok])) w' :=
  ⟨v, ok, by rw [hx], h, hb⟩

theorem prefix_minus (r : List UInt8) : Lib.hasPrefix (45 :: r) (⟨#[45]⟩ : ByteArray).data.toList = true ∧ Lib.trimPrefix (45 :: r) (⟨#[45]⟩ : ByteArray).data.toList = r := by
  simp [Lib.hasPrefix, Lib.trimPrefix]
theorem prefix_plain (l : List UInt8) (h : ∀ r, l ≠ 45 :: r) : Lib.hasPrefix l (⟨#[45]⟩ : ByteArray).data.toList = false := by
  cases l with
  | nil => rfl
  | cons c r =>
    have hc : c ≠ 45 := fun e => h r (by rw [e])
    simp [Lib.hasPrefix, List.isPrefixOf, Ne.symm hc]

end Go.Proofs.Ytibeljppjaenbaa
