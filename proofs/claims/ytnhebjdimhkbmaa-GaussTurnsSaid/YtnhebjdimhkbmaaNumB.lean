/- The walks of num.Print, Parse, Hex and Unhex. -/
import Derived.Test.YtnhebjdimhkbmaaTake
import Derived.Test.YtnhebjdimhkbmaaParseMath
namespace Go.Proofs.Ytnhebjdimhkbmaa
open Go.RowKit

theorem take_any (s : ByteArray) (b most : Nat) (w : World) (hm : most < 18446744073709551616) (hb : b = 10 ∨ b = 16) (hbm : b ≤ most) (hs : s.size ≤ 9223372036854775807) :
    Calls Try.prog 49 #[.string s, .int .u64 b, .int .u64 most] w (TakeEnds b most s w) := by
  have hmb : most < b ^ 20 := by
    rcases hb with rfl | rfl
    · exact Nat.lt_trans hm (by decide)
    · exact Nat.lt_trans hm (by decide)
  by_cases h0 : 0 < s.size
  · by_cases h : 1 < s.size ∧ (s[0]'h0).toNat = 48
    · exact take_ahead s b most w hb hmb h.1 h.2
    · exact take_loop s b most w hm hmb hb hbm hs h0 (fun h48 => by
        by_cases h1 : 1 < s.size
        · exact absurd ⟨h1, h48⟩ h
        · omega)
  · exact take_empty s b most w (by
      rw [Lib.toList_data]
      exact List.eq_nil_of_length_eq_zero (by rw [← Lib.size_eq]; omega))

theorem txt_len (b m : Nat) : (txt b m).size ≤ 20 := by
  rw [Lib.size_eq]
  simpa [txt] using dgs_length b 20 m


theorem neg_u64 (m : Nat) (h : 0 < m) (h' : m ≤ 9223372036854775808) : IntKind.u64.wrap (-IntKind.u64.wrap (-(m : Int))) = (m : Int) := by
  rw [IntKind.wrap_u64, IntKind.wrap_u64]
  omega
theorem neg_i64 (m : Nat) (h' : m ≤ 9223372036854775808) : IntKind.i64.wrap (IntKind.u64.wrap (-(m : Int))) = -(m : Int) := by
  rw [IntKind.wrap_u64, IntKind.wrap_i64]
  omega

set_option maxHeartbeats 400000 in
theorem print_any (n : Int) (w : World) (hn : -9223372036854775808 ≤ n) (hn' : n ≤ 9223372036854775807) :
    Calls Try.prog 43 #[.int .i64 n] w fun e w' => e = .returned (.string ⟨(pl n).toArray⟩) ∧ Below w.heap.size w w' := by
  by_cases h : n < 0
  · obtain ⟨m, rfl⟩ : ∃ m : Nat, n = -m := ⟨n.natAbs, by omega⟩
    have hp := Lib.hid (pow_lt_10 m (by omega))
    have HPL := Lib.hid (pl_neg m (by omega))
    have hw := neg_u64 m (by omega) (by omega)
    have htl := txt_len 10 m
    go_enter Try.func43, Try.ntmps43
    go_wp2_with (go_at_call 50; refine (digits_any m 10 _ (by omega) hp.out (by omega) (by omega)).mono ?_; rintro e w' ⟨rfl, hb⟩)
    go_ret
    refine ⟨?_, hb⟩
    rw [HPL.out]
    rfl
  · obtain ⟨m, rfl⟩ : ∃ m : Nat, n = m := ⟨n.natAbs, by omega⟩
    have hp := Lib.hid (pow_lt_10 m (by omega))
    have HPL := Lib.hid (pl_pos m)
    go_enter Try.func43, Try.ntmps43
    go_wp2_with (go_at_call 50; refine (digits_any m 10 _ (by omega) hp.out (by omega) (by omega)).mono ?_; rintro e w' ⟨rfl, hb⟩)
    go_ret
    refine ⟨?_, hb⟩
    rw [HPL.out]
    rfl

theorem nat_eq_of {v : Nat} (h : ((v : Int) == 0) = true) : v = 0 := by
  have h' := eq_of_beq h
  omega
theorem nat_ne_of {v : Nat} (h : ((v : Int) == 0) = false) : v ≠ 0 := by
  intro e
  rw [e] at h
  exact absurd h (by decide)

def ParseEnds (s : ByteArray) (w : World) (e : Ending) (w' : World) : Prop :=
  ∃ (v : Int) (ok : Bool), e = .returned (.tuple #[.int .i64 v, .bool ok]) ∧ ParseIs s.data.toList v ok ∧ Below w.heap.size w w'

theorem parseEnds_mk {s : ByteArray} {w w' : World} {v x : Int} {ok : Bool} (hx : x = v) (h : ParseIs s.data.toList v ok) (hb : Below w.heap.size w w') : ParseEnds s w (.returned (.tuple #[.int .i64 x, .bool ok])) w' :=
  ⟨v, ok, by rw [hx], h, hb⟩

theorem prefix_minus (r : List UInt8) : Lib.hasPrefix (45 :: r) (⟨#[45]⟩ : ByteArray).data.toList = true ∧ Lib.trimPrefix (45 :: r) (⟨#[45]⟩ : ByteArray).data.toList = r := by
  simp [Lib.hasPrefix, Lib.trimPrefix]
theorem prefix_plain (l : List UInt8) (h : ∀ r, l ≠ 45 :: r) : Lib.hasPrefix l (⟨#[45]⟩ : ByteArray).data.toList = false := by
  cases l with
  | nil => rfl
  | cons c r =>
    have hc : c ≠ 45 := fun e => h r (by rw [e])
    simp [Lib.hasPrefix, List.isPrefixOf, Ne.symm hc]

set_option maxHeartbeats 400000 in
theorem parse_plain_any (s : ByteArray) (w : World) (hs : s.size ≤ 9223372036854775807) (hl : ∀ r, s.data.toList ≠ 45 :: r) :
    Calls Try.prog 41 #[.string s] w (ParseEnds s w) := by
  have hp := prefix_plain _ hl
  have HL := Lib.hid hl
  clear hl
  have hcut := Try.strings_CutPrefix s ⟨#[45]⟩
  rw [hp] at hcut
  go_enter Try.func41, Try.ntmps41
  go_wp2_with (first | (go_at_call 48; refine (hcut _).mono ?_; rintro e w' ⟨rfl, rfl⟩) | (go_at_call 49; refine (take_any s 10 9223372036854775807 _ (by omega) (.inl rfl) (by omega) hs).mono ?_; rintro e w' ⟨v, ok, rfl, hv, hb⟩; have hvm := takeIs_le hv))
  go_ret2
  exact parseEnds_mk rfl (parse_plain HL.out hv) hb
set_option maxHeartbeats 400000 in
theorem parse_minus_any (s : ByteArray) (r : List UInt8) (w : World) (hs : s.size ≤ 9223372036854775807) (hl : s.data.toList = 45 :: r) :
    Calls Try.prog 41 #[.string s] w (ParseEnds s w) := by
  have hp := prefix_minus r
  have hcut := Try.strings_CutPrefix s ⟨#[45]⟩
  rw [hl, hp.1, hp.2] at hcut
  have hrs : (⟨r.toArray⟩ : ByteArray).size ≤ 9223372036854775807 := by
    rw [Lib.size_eq] at hs ⊢
    rw [hl] at hs
    simp at hs ⊢
    omega
  have HL := Lib.hid hl
  clear hl
  clear hp
  go_enter Try.func41, Try.ntmps41
  go_wp2_with (first | (go_at_call 48; refine (hcut _).mono ?_; rintro e w' ⟨rfl, rfl⟩) | (go_at_call 49; refine (take_any ⟨r.toArray⟩ 10 9223372036854775808 _ (by omega) (.inl rfl) (by omega) hrs).mono ?_; rintro e w' ⟨v, ok, rfl, hv, hb⟩; have hvm := takeIs_le hv; have hng := neg_i64 v hvm))
  · go_ret2
    exact parseEnds_mk rfl (by rw [HL.out]; exact parse_minus_none hv (nat_eq_of (by assumption))) hb
  · go_ret2
    exact parseEnds_mk rfl (by rw [HL.out]; exact parse_minus hv (nat_ne_of (by assumption))) hb

theorem parse_any (s : ByteArray) (w : World) (hs : s.size ≤ 9223372036854775807) :
    Calls Try.prog 41 #[.string s] w (ParseEnds s w) := by
  by_cases h : ∃ r, s.data.toList = 45 :: r
  · obtain ⟨r, h⟩ := h
    exact parse_minus_any s r w hs h
  · exact parse_plain_any s w hs (fun r e => h ⟨r, e⟩)
/-- An answer that is known fits. -/
theorem parse_as (s : ByteArray) (v : Int) (ok : Bool) (w : World) (hs : s.size ≤ 9223372036854775807) (h : ParseIs s.data.toList v ok) :
    Calls Try.prog 41 #[.string s] w fun e w' => e = .returned (.tuple #[.int .i64 v, .bool ok]) ∧ Below w.heap.size w w' := by
  refine (parse_any s w hs).mono ?_
  rintro e w' ⟨v', ok', rfl, h', hb⟩
  obtain ⟨rfl, rfl⟩ := parseIs_one h h'
  exact ⟨rfl, hb⟩
end Go.Proofs.Ytnhebjdimhkbmaa
