/- The walk of the law NumBack. -/
import Derived.Test.YtpfningdbmhonaaWordsLaw
namespace Go.Proofs.Ytpfningdbmhonaa
open Go.RowKit

theorem parse_as (s : ByteArray) (v : Int) (ok : Bool) (w : World) (hs : s.size ≤ 9223372036854775807) (h : ParseIs s.data.toList v ok) :
    Calls Try.prog 8 #[.string s] w fun e w' => e = .returned (.tuple #[.int .i64 v, .bool ok]) ∧ Below w.heap.size w w' := by
  refine (parse_any s w hs).mono ?_
  rintro e w' ⟨v', ok', rfl, h', hb⟩
  obtain ⟨rfl, rfl⟩ := parseIs_one h h'
  exact ⟨rfl, hb⟩
theorem unhex_as (s : ByteArray) (v : Nat) (ok : Bool) (w : World) (hs : s.size ≤ 9223372036854775807) (h : TakeIs 16 18446744073709551615 s.data.toList v ok) :
    Calls Try.prog 12 #[.string s] w fun e w' => e = .returned (.tuple #[.int .u64 v, .bool ok]) ∧ Below w.heap.size w w' := by
  refine (unhex_any s w hs).mono ?_
  rintro e w' ⟨v', ok', rfl, h', hb⟩
  obtain ⟨rfl, rfl⟩ := takeIs_one h h' (.inr rfl) (by decide)
  exact ⟨rfl, hb⟩

theorem parse_exists (l : List UInt8) : ∃ v ok, ParseIs l v ok := by
  by_cases h : ∃ n, Is64 n ∧ l = pl n
  · obtain ⟨n, h1, h2⟩ := h
    exact ⟨n, true, fun _ => ⟨h1, h2⟩, by simp⟩
  · exact ⟨0, false, by simp, fun _ => ⟨rfl, fun n h1 h2 => h ⟨n, h1, h2⟩⟩⟩
theorem take_exists (b most : Nat) (l : List UInt8) : ∃ v ok, TakeIs b most l v ok := by
  by_cases h : ∃ m, m ≤ most ∧ l = ltxt b m
  · obtain ⟨n, h1, h2⟩ := h
    exact ⟨n, true, fun _ => ⟨h1, h2⟩, by simp⟩
  · exact ⟨0, false, by simp, fun _ => ⟨rfl, fun n h1 h2 => h ⟨n, h1, h2⟩⟩⟩

theorem words_yes (s : ByteArray) (l : List (List UInt8)) (w : World) (hs : s.size ≤ 100000) (hw : w.ShapedOpen Try.prog) (h : sw s.data.toList = some l) :
    Calls Try.prog 16 #[.string s] w fun e w' => ∃ v ws, e = .returned (.tuple #[v, .bool true]) ∧ StrsAt w' v ws ∧ Below w.heap.size w w' ∧ ws.length ≤ s.size + 1 ∧ jn ws = s := by
  refine (words_any s w hs hw).mono ?_
  rintro e w' ⟨v, ok, ws, rfl, hst, hb, hsw, h0⟩
  cases ok with
  | true =>
    refine ⟨v, ws, rfl, hst, hb, words_few (ok := true) hsw h0, ?_⟩
    unfold jn
    rw [join_sw hsw]
  | false => rw [h] at hsw; simp at hsw
theorem words_no (s : ByteArray) (w : World) (hs : s.size ≤ 100000) (hw : w.ShapedOpen Try.prog) (h : sw s.data.toList = none) :
    Calls Try.prog 16 #[.string s] w fun e w' => ∃ v, e = .returned (.tuple #[v, .bool false]) ∧ Below w.heap.size w w' := by
  refine (words_any s w hs hw).mono ?_
  rintro e w' ⟨v, ok, ws, rfl, hst, hb, hsw, h0⟩
  cases ok with
  | true => rw [h] at hsw; simp at hsw
  | false => exact ⟨v, rfl, hb⟩

theorem pl_beq (n m : Int) (hn : Is64 n) (hm : Is64 m) : (pl n == pl m) = (n == m) := by
  by_cases h : n = m
  · subst h; simp
  · have h' : pl n ≠ pl m := fun e => h (pl_inj hn hm e)
    rw [beq_eq_false_iff_ne.2 h, beq_eq_false_iff_ne.2 h']

set_option maxHeartbeats 2000000 in
theorem numBack_any (n m u : Int) (s : ByteArray) (w : World) (hw : w.ShapedOpen Try.prog) (hn : -9223372036854775808 ≤ n) (hn' : n ≤ 9223372036854775807) (hm : -9223372036854775808 ≤ m) (hm' : m ≤ 9223372036854775807) (hu : 0 ≤ u) (hu' : u ≤ 18446744073709551615) (hs : s.size ≤ 9223372036854775807) :
    Calls Try.prog 6 #[.int .i64 n, .int .i64 m, .int .u64 u, .string s] w fun e w' => e = .returned (.bool true) ∧ Below w.heap.size w w' := by
  obtain ⟨k, rfl⟩ : ∃ k : Nat, u = k := ⟨u.toNat, by omega⟩
  have hk : k < 18446744073709551616 := by omega
  by_cases h3 : s.size ≤ 300
  · obtain ⟨v, ok, hv⟩ := parse_exists s.data.toList
    obtain ⟨x, ok2, hx⟩ := take_exists 16 18446744073709551615 s.data.toList
    have hbeq := pl_beq n m ⟨hn, hn'⟩ ⟨hm, hm'⟩
    have hpn : ParseIs (⟨(pl n).toArray⟩ : ByteArray).data.toList n true := ⟨fun _ => ⟨⟨hn, hn'⟩, rfl⟩, by simp⟩
    have hsn : (⟨(pl n).toArray⟩ : ByteArray).size ≤ 9223372036854775807 := by rw [Lib.size_eq]; exact Nat.le_trans (pl_len n) (by omega)
    have hun : TakeIs 16 18446744073709551615 (⟨(ltxt 16 k).toArray⟩ : ByteArray).data.toList k true := ⟨fun _ => ⟨by omega, rfl⟩, by simp⟩
    have hsu : (⟨(ltxt 16 k).toArray⟩ : ByteArray).size ≤ 9223372036854775807 := by rw [Lib.size_eq]; exact Nat.le_trans (ltxt_len 16 k) (by omega)
    have HV := Lib.hid hv
    have HX := Lib.hid hx
    have HPN := Lib.hid hpn
    have HUN := Lib.hid hun
    have hc1 : ok = true → Is64 v ∧ (⟨(pl v).toArray⟩ : ByteArray) = s := fun h => ⟨(hv.1 h).1, by rw [← (hv.1 h).2]⟩
    have hc2 : ok2 = true → x < 18446744073709551616 ∧ (⟨(ltxt 16 x).toArray⟩ : ByteArray) = s := fun h => ⟨by have := (hx.1 h).1; omega, by rw [← (hx.1 h).2]⟩
    clear hv hx hpn hun
    cases ok
    all_goals cases ok2
    all_goals (try have hd1 := hc1 rfl)
    all_goals (try have hd2 := hc2 rfl)
    all_goals clear hc1 hc2
    all_goals cases hsw : sw s.data.toList
    all_goals have HSW := Lib.hid hsw
    all_goals clear hsw
    all_goals (try obtain ⟨⟨hv1, hv2⟩, hpv⟩ := hd1)
    all_goals (try obtain ⟨hx1, hpx⟩ := hd2)
    all_goals have hB := Below.refl w.heap.size w
    all_goals go_enter Try.func6, Try.ntmps6
    all_goals go_wp2_with (first
      | (go_at_call 8; ((with_reducible refine (parse_as _ n true _ hsn HPN.out).mono ?_); rintro e w1 ⟨rfl, hb⟩; replace hB := hB.trans (hb.mono hB.size); clear hb))
      | (go_at_call 8; ((with_reducible refine (parse_as s v _ _ hs HV.out).mono ?_); rintro e w2 ⟨rfl, hb⟩; replace hB := hB.trans (hb.mono hB.size); clear hb))
      | (go_at_call 12; ((with_reducible refine (unhex_as _ k true _ hsu HUN.out).mono ?_); rintro e w3 ⟨rfl, hb⟩; replace hB := hB.trans (hb.mono hB.size); clear hb))
      | (go_at_call 12; ((with_reducible refine (unhex_as s x _ _ hs HX.out).mono ?_); rintro e w4 ⟨rfl, hb⟩; replace hB := hB.trans (hb.mono hB.size); clear hb))
      | (go_at_call 10; ((with_reducible refine (print_any n _ hn hn').mono ?_); rintro e w5 ⟨rfl, hb⟩; replace hB := hB.trans (hb.mono hB.size); clear hb))
      | (go_at_call 10; ((with_reducible refine (print_any m _ hm hm').mono ?_); rintro e w6 ⟨rfl, hb⟩; replace hB := hB.trans (hb.mono hB.size); clear hb))
      | (go_at_call 10; ((with_reducible refine (print_any v _ hv1 hv2).mono ?_); rintro e w7 ⟨rfl, hb⟩; replace hB := hB.trans (hb.mono hB.size); clear hb))
      | (go_at_call 14; ((with_reducible refine (hex_any k _ hk).mono ?_); rintro e w8 ⟨rfl, hb⟩; replace hB := hB.trans (hb.mono hB.size); clear hb))
      | (go_at_call 14; ((with_reducible refine (hex_any x _ hx1).mono ?_); rintro e w9 ⟨rfl, hb⟩; replace hB := hB.trans (hb.mono hB.size); clear hb))
      | (go_at_call 16; ((with_reducible refine (words_no s _ (by omega) (shaped_below hw hB) HSW.out).mono ?_); rintro e w10 ⟨va, rfl, hb⟩; replace hB := hB.trans (hb.mono hB.size); clear hb))
      | (go_at_call 16; ((with_reducible refine (words_yes s _ _ (by omega) (shaped_below hw hB) HSW.out).mono ?_); rintro e w11 ⟨va, ws, rfl, hst, hb, hwl, hjn⟩; replace hB := hB.trans (hb.mono hB.size); clear hb))
      | (go_at_call 19; ((with_reducible refine (join_at _ ws _ hst (by omega) (by rw [hjn]; omega)).mono ?_); rintro e w12 ⟨rfl, hb⟩; replace hB := hB.trans (hb.mono hB.size); clear hb))
      | (go_at_call 7; ((with_reducible refine (alive_any _).mono ?_); rintro e w13 ⟨rfl, hb⟩; replace hB := hB.trans (hb.mono hB.size); clear hb)))
    all_goals go_ret
    all_goals exact ⟨rfl, hB⟩
  · go_enter Try.func6, Try.ntmps6
    go_wp2_with (go_at_call 7; refine (alive_any _).mono ?_; rintro e w5 ⟨rfl, hb5⟩)
    go_ret
    exact ⟨rfl, hb5⟩
end Go.Proofs.Ytpfningdbmhonaa
