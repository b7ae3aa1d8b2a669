/- The walks of the laws NumPrints and NumHexes. -/
import Derived.Test.YtpfningdbmhonaaNumAlive
import Derived.Test.YtpfningdbmhonaaRefParse
import Derived.Test.YtpfningdbmhonaaRefUnhex
namespace Go.Proofs.Ytpfningdbmhonaa
open Go.RowKit

theorem refParse_as (s : ByteArray) (v : Int) (ok : Bool) (w : World) (hs : s.size ≤ 9223372036854775807) (h : ParseIs s.data.toList v ok) :
    Calls Try.prog 9 #[.string s] w fun e w' => e = .returned (.tuple #[.int .i64 v, .bool ok]) ∧ Below w.heap.size w w' := by
  refine (refParse_any s w hs).mono ?_
  rintro e w' ⟨v', ok', rfl, h', hb⟩
  obtain ⟨rfl, rfl⟩ := parseIs_one h h'
  exact ⟨rfl, hb⟩
theorem refUnhex_as (s : ByteArray) (v : Nat) (ok : Bool) (w : World) (hs : s.size ≤ 9223372036854775807) (h : TakeIs 16 18446744073709551615 s.data.toList v ok) :
    Calls Try.prog 13 #[.string s] w fun e w' => e = .returned (.tuple #[.int .u64 v, .bool ok]) ∧ Below w.heap.size w w' := by
  refine (refUnhex_any s w hs).mono ?_
  rintro e w' ⟨v', ok', rfl, h', hb⟩
  obtain ⟨rfl, rfl⟩ := takeIs_one h h' (.inr rfl) (by decide)
  exact ⟨rfl, hb⟩

set_option maxHeartbeats 1000000 in
theorem numPrints_any (n : Int) (s : ByteArray) (w : World) (hn : -9223372036854775808 ≤ n) (hn' : n ≤ 9223372036854775807) (hs : s.size ≤ 9223372036854775807) :
    Calls Try.prog 3 #[.int .i64 n, .string s] w fun e w' => e = .returned (.bool true) ∧ Below w.heap.size w w' := by
  by_cases h : s.size ≤ 100
  · go_enter Try.func3, Try.ntmps3
    go_wp2_with (first
      | (go_at_call 8; refine (parse_any s _ hs).mono ?_; rintro e w1 ⟨v, ok, rfl, hv, hb1⟩)
      | (go_at_call 9; refine (refParse_as s v ok _ hs hv).mono ?_; rintro e w2 ⟨rfl, hb2⟩)
      | (go_at_call 10; refine (print_any n _ hn hn').mono ?_; rintro e w3 ⟨rfl, hb3⟩)
      | (go_at_call 11; refine (refPrint_any n _ hn hn').mono ?_; rintro e w4 ⟨rfl, rfl⟩)
      | (go_at_call 7; refine (alive_any _).mono ?_; rintro e w5 ⟨rfl, hb5⟩))
    go_ret
    have h1 := hb1.trans (hb2.mono hb1.size)
    have h2 := h1.trans (hb3.mono h1.size)
    exact ⟨rfl, h2.trans (hb5.mono h2.size)⟩
  · go_enter Try.func3, Try.ntmps3
    go_wp2_with (go_at_call 7; refine (alive_any _).mono ?_; rintro e w5 ⟨rfl, hb5⟩)
    go_ret
    exact ⟨rfl, hb5⟩

set_option maxHeartbeats 1000000 in
theorem numHexes_any (n : Int) (s : ByteArray) (w : World) (hn : 0 ≤ n) (hn' : n ≤ 18446744073709551615) (hs : s.size ≤ 9223372036854775807) :
    Calls Try.prog 4 #[.int .u64 n, .string s] w fun e w' => e = .returned (.bool true) ∧ Below w.heap.size w w' := by
  obtain ⟨m, rfl⟩ : ∃ m : Nat, n = m := ⟨n.toNat, by omega⟩
  have hm : m < 18446744073709551616 := by omega
  by_cases h : s.size ≤ 100
  · go_enter Try.func4, Try.ntmps4
    go_wp2_with (first
      | (go_at_call 12; refine (unhex_any s _ hs).mono ?_; rintro e w1 ⟨v, ok, rfl, hv, hb1⟩)
      | (go_at_call 13; refine (refUnhex_as s v ok _ hs hv).mono ?_; rintro e w2 ⟨rfl, hb2⟩)
      | (go_at_call 14; refine (hex_any m _ hm).mono ?_; rintro e w3 ⟨rfl, hb3⟩)
      | (go_at_call 15; refine (refHex_any m _ hm).mono ?_; rintro e w4 ⟨rfl, rfl⟩)
      | (go_at_call 7; refine (alive_any _).mono ?_; rintro e w5 ⟨rfl, hb5⟩))
    go_ret
    have h1 := hb1.trans (hb2.mono hb1.size)
    have h2 := h1.trans (hb3.mono h1.size)
    exact ⟨rfl, h2.trans (hb5.mono h2.size)⟩
  · go_enter Try.func4, Try.ntmps4
    go_wp2_with (go_at_call 7; refine (alive_any _).mono ?_; rintro e w5 ⟨rfl, hb5⟩)
    go_ret
    exact ⟨rfl, hb5⟩
end Go.Proofs.Ytpfningdbmhonaa
