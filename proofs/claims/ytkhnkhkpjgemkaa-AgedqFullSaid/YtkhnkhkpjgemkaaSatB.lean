/- The walks of package sat: what is exported. -/
import Derived.Test.YtkhnkhkpjgemkaaSatA
namespace Go.Proofs.Ytkhnkhkpjgemkaa
open Go.RowKit

theorem satClip_c (n a b : Int) (w : World) : Calls Try.prog 17 #[.int .i64 n, .int .i64 a, .int .i64 b] w fun e w' => e = .returned (.int .i64 (iclip n a b)) ∧ w = w' := by
  by_cases h : n < a
  · go_enter Try.func17, Try.ntmps17
    go_wp2
    go_ret
    exact ⟨ret_int (by rw [iclip, if_pos h]), rfl⟩
  · go_enter Try.func17, Try.ntmps17
    go_wp2
    go_ret
    exact ⟨ret_int (by rw [iclip, if_neg (by omega)]), rfl⟩

theorem satLess_c (a b : Int) (w : World) (ha : -9223372036854775808 ≤ a ∧ a ≤ 9223372036854775807) (hb : -9223372036854775808 ≤ b ∧ b ≤ 9223372036854775807) : Calls Try.prog 40 #[.int .i64 a, .int .i64 b] w fun e w' => e = .returned (.int .i64 (iless a b)) ∧ w = w' := by
  have h1 : -9223372036854775808 ≤ max a 0 - max b 0 := by omega
  have h2 : max a 0 - max b 0 ≤ 9223372036854775807 := by omega
  go_enter Try.func40, Try.ntmps40
  go_wp2_with (first
    | (go_at_call 51; refine (satNatural_c _ _).mono ?_; rintro e w1 ⟨rfl, rfl⟩))
  go_ret
  exact ⟨rfl, rfl⟩

def InI64 (l : List Int) : Prop := ∀ x ∈ l, -9223372036854775808 ≤ x ∧ x ≤ 9223372036854775807

set_option maxHeartbeats 400000 in
theorem satAdd_c (m : Int) (v : Value) (l : List Int) (w : World) (hm : m ≤ 9223372036854775807) (hl : IntsAt w v l) (hlen : l.length ≤ 9223372036854775807) (hr : InI64 l) :
    Calls Try.prog 41 #[.int .i64 m, v] w fun e w' => e = .returned (.int .i64 (sadd (max m 0) l)) ∧ Below w.heap.size w w' := by
  have hmf : ∀ (fn : Fn) (first cap : Array Value) (w : World), (Instr.makeFunc fn first cap).run Try.prog w = .ok (.func fn first cap) w := fun _ _ _ _ => rfl
  have hm0 : 0 ≤ max m 0 := by omega
  have hm1 : max m 0 ≤ 9223372036854775807 := by omega
  have hB : Below w.heap.size w (w.alloc (.cells #[.int .i64 (max m 0)] 3)) := (Below.refl _ _).alloc (Nat.le_refl _) _
  have hc : (w.alloc (.cells #[.int .i64 (max m 0)] 3)).cell? ⟨w.heap.size, 0, none⟩ = some (.int .i64 (max m 0)) := World.cell?_alloc_at _ _ _ _ rfl
  have HL := Lib.hid (hl.below hB)
  have HR := Lib.hid hr
  clear hl hr
  go_enter Try.func41, Try.ntmps41
  go_wp2_with (first
    | (go_at_call 51; refine (satNatural_c _ _).mono ?_; rintro e w1 ⟨rfl, rfl⟩)
    | (go_at_call 52; refine (together_add (max m 0) w.heap.size v l _ hc hm0 hm1 HL.out hlen HR.out).mono ?_; rintro e w1 ⟨rfl, rfl⟩))
  go_ret
  exact ⟨rfl, hB⟩

set_option maxHeartbeats 400000 in
theorem satMul_c (m : Int) (v : Value) (l : List Int) (w : World) (hm : m ≤ 9223372036854775807) (hl : IntsAt w v l) (hlen : l.length ≤ 9223372036854775807) (hr : InI64 l) :
    Calls Try.prog 43 #[.int .i64 m, v] w fun e w' => e = .returned (.int .i64 (smul (max m 0) l)) ∧ Below w.heap.size w w' := by
  have hmf : ∀ (fn : Fn) (first cap : Array Value) (w : World), (Instr.makeFunc fn first cap).run Try.prog w = .ok (.func fn first cap) w := fun _ _ _ _ => rfl
  have hm0 : 0 ≤ max m 0 := by omega
  have hm1 : max m 0 ≤ 9223372036854775807 := by omega
  have hB : Below w.heap.size w (w.alloc (.cells #[.int .i64 (max m 0)] 3)) := (Below.refl _ _).alloc (Nat.le_refl _) _
  have hc : (w.alloc (.cells #[.int .i64 (max m 0)] 3)).cell? ⟨w.heap.size, 0, none⟩ = some (.int .i64 (max m 0)) := World.cell?_alloc_at _ _ _ _ rfl
  have HL := Lib.hid (hl.below hB)
  have HR := Lib.hid hr
  have H0 := Lib.hid (smul_nil (max m 0)).symm
  clear hl hr
  go_enter Try.func43, Try.ntmps43
  go_wp2_with (first
    | (go_at_call 51; refine (satNatural_c _ _).mono ?_; rintro e w1 ⟨rfl, rfl⟩)
    | (go_at_call 52; refine (together_mul (max m 0) _ w.heap.size v l _ H0.out hc hm0 hm1 HL.out hlen HR.out).mono ?_; rintro e w1 ⟨rfl, rfl⟩))
  go_ret
  exact ⟨rfl, hB⟩
end Go.Proofs.Ytkhnkhkpjgemkaa
