/- The walk of the law's alive: what num answers at some closed inputs. -/
import Derived.Test.YtpfningdbmhonaaNumB
namespace Go.Proofs.Ytpfningdbmhonaa
open Go.RowKit

theorem parse_text (s : ByteArray) (v : Int) (w : World) (hs : s.size ≤ 9223372036854775807) (hv : Is64 v) (hl : s.data.toList = pl v) :
    Calls Try.prog 8 #[.string s] w fun e w' => e = .returned (.tuple #[.int .i64 v, .bool true]) ∧ Below w.heap.size w w' := by
  refine (parse_any s w hs).mono ?_
  rintro e w' ⟨v', ok, rfl, h, hb⟩
  obtain ⟨rfl, rfl⟩ := parseIs_one (v := v) (ok := true) ⟨fun _ => ⟨hv, hl⟩, by simp⟩ h
  exact ⟨rfl, hb⟩
theorem parse_no (s : ByteArray) (w : World) (hs : s.size ≤ 9223372036854775807) (hl : ∀ v, Is64 v → s.data.toList ≠ pl v) :
    Calls Try.prog 8 #[.string s] w fun e w' => e = .returned (.tuple #[.int .i64 0, .bool false]) ∧ Below w.heap.size w w' := by
  refine (parse_any s w hs).mono ?_
  rintro e w' ⟨v', ok, rfl, h, hb⟩
  obtain ⟨rfl, rfl⟩ := parseIs_one (v := 0) (ok := false) ⟨by simp, fun _ => ⟨rfl, hl⟩⟩ h
  exact ⟨rfl, hb⟩
theorem unhex_text (s : ByteArray) (v : Nat) (w : World) (hs : s.size ≤ 9223372036854775807) (hv : v ≤ 18446744073709551615) (hl : s.data.toList = ltxt 16 v) :
    Calls Try.prog 12 #[.string s] w fun e w' => e = .returned (.tuple #[.int .u64 v, .bool true]) ∧ Below w.heap.size w w' := by
  refine (unhex_any s w hs).mono ?_
  rintro e w' ⟨v', ok, rfl, h, hb⟩
  obtain ⟨rfl, rfl⟩ := takeIs_one (v := v) (ok := true) ⟨fun _ => ⟨hv, hl⟩, by simp⟩ h (.inr rfl) (by decide)
  exact ⟨rfl, hb⟩

theorem not_07 (v : Int) (hv : Is64 v) : (⟨#[48, 55]⟩ : ByteArray).data.toList ≠ pl v := by
  intro h
  have hv1 := hv.2
  rcases pl_cases v with ⟨m, _, _, e2⟩ | ⟨m, e1, e2⟩
  · rw [e2] at h
    exact absurd (List.cons.inj h).1 (by decide)
  · rw [e2] at h
    have := ltxt_zero 10 m (.inl rfl) (pow_lt_10 m (by omega)) (by rw [← h]; rfl)
    rw [← h] at this
    exact absurd this (by decide)

/-- Texts with a blank between two. -/
theorem join_any (bk o c : Nat) (xs : List ByteArray) (w : World) (hcells : ∀ (j : Nat) x, xs[j]? = some x → w.cell? ⟨bk, o + j, none⟩ = some (.string x)) (hbk : bk < w.heap.size) (hN : xs.length ≤ 140737488355328) (hcap : xs.length ≤ c) (hlen : (Lib.join (xs.map (·.data.toList)) [32]).length ≤ 140737488355328) :
    Calls Try.prog 19 #[.slice (some ⟨bk, o, none⟩) xs.length c] w fun e w' => e = .returned (.string ⟨(Lib.join (xs.map (·.data.toList)) [32]).toArray⟩) ∧ Below w.heap.size w w' := by
  have HC := Lib.hid hcells
  have HL := Lib.hid hlen
  clear hcells hlen
  go_enter Try.func19, Try.ntmps19
  go_wp2_with (go_at_call 26; refine (Try.strings_Join bk o c xs ⟨#[32]⟩ _ HC.out hbk hN hcap HL.out).mono ?_; rintro e w' ⟨rfl, hb⟩)
  go_ret
  exact ⟨rfl, hb⟩

theorem parse_12 (w : World) : Calls Try.prog 8 #[.string ⟨#[45, 49, 50]⟩] w fun e w' => e = .returned (.tuple #[.int .i64 (-12), .bool true]) ∧ Below w.heap.size w w' :=
  parse_text ⟨#[45, 49, 50]⟩ (-12) w (by decide) ⟨by omega, by omega⟩ (by decide +kernel)
theorem parse_07 (w : World) : Calls Try.prog 8 #[.string ⟨#[48, 55]⟩] w fun e w' => e = .returned (.tuple #[.int .i64 0, .bool false]) ∧ Below w.heap.size w w' :=
  parse_no ⟨#[48, 55]⟩ w (by decide) not_07
theorem unhex_ff (w : World) : Calls Try.prog 12 #[.string ⟨#[102, 102]⟩] w fun e w' => e = .returned (.tuple #[.int .u64 255, .bool true]) ∧ Below w.heap.size w w' :=
  unhex_text ⟨#[102, 102]⟩ 255 w (by decide) (by omega) (by decide +kernel)
theorem print_least (w : World) : Calls Try.prog 10 #[.int .i64 (-9223372036854775808)] w fun e w' => e = .returned (.string ⟨#[45, 57, 50, 50, 51, 51, 55, 50, 48, 51, 54, 56, 53, 52, 55, 55, 53, 56, 48, 56]⟩) ∧ Below w.heap.size w w' := by
  have h := print_any (-9223372036854775808) w (by omega) (by omega)
  rw [show pl (-9223372036854775808) = [45, 57, 50, 50, 51, 51, 55, 50, 48, 51, 54, 56, 53, 52, 55, 55, 53, 56, 48, 56] by decide +kernel] at h
  exact h

theorem join_ab (w : World) : Calls Try.prog 19 #[.slice (some ⟨w.heap.size, 0, none⟩) 2 2] (w.alloc (.cells #[.string ⟨#[97]⟩, .string ⟨#[98]⟩] 9)) fun e w' => e = .returned (.string ⟨#[97, 32, 98]⟩) ∧ Below w.heap.size (w.alloc (.cells #[.string ⟨#[97]⟩, .string ⟨#[98]⟩] 9)) w' := by
  refine (join_any w.heap.size 0 2 [⟨#[97]⟩, ⟨#[98]⟩] (w.alloc (.cells #[.string ⟨#[97]⟩, .string ⟨#[98]⟩] 9)) ?_ (by simp) (by decide) (by decide) (by decide)).mono ?_
  · intro j x hj
    rw [Nat.zero_add, World.cell?_alloc_at _ _ _ _ rfl]
    match j, hj with
    | 0, hj => simp at hj; subst hj; rfl
    | 1, hj => simp at hj; subst hj; rfl
    | n + 2, hj => simp at hj
  · rintro e w' ⟨rfl, hb⟩
    exact ⟨rfl, hb.mono (by simp)⟩

set_option maxHeartbeats 1000000 in
theorem alive_any (w : World) :
    Calls Try.prog 7 #[] w fun e w' => e = .returned (.bool true) ∧ Below w.heap.size w w' := by
  go_enter Try.func7, Try.ntmps7
  go_wp2_with (first
    | (go_at_call 8; ((with_reducible refine (parse_12 _).mono ?_); rintro e w1 ⟨rfl, hb1⟩))
    | (go_at_call 8; ((with_reducible refine (parse_07 _).mono ?_); rintro e w2 ⟨rfl, hb2⟩))
    | (go_at_call 12; ((with_reducible refine (unhex_ff _).mono ?_); rintro e w3 ⟨rfl, hb3⟩))
    | (go_at_call 10; ((with_reducible refine (print_least _).mono ?_); rintro e w4 ⟨rfl, hb4⟩))
    | (go_at_call 19; ((with_reducible refine (join_ab _).mono ?_); rintro e w5 ⟨rfl, hb5⟩)))
  go_ret
  have h1 := hb1.trans (hb2.mono hb1.size)
  have h2 := h1.trans (hb3.mono h1.size)
  have h3 := h2.trans (hb4.mono h2.size)
  exact ⟨rfl, (h3.alloc h3.size _).trans (hb5.mono h3.size)⟩
end Go.Proofs.Ytpfningdbmhonaa
