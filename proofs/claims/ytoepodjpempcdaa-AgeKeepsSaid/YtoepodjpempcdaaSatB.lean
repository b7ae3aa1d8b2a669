/- The walks of package sat: what is exported. -/
import Derived.Test.YtoepodjpempcdaaSatA
namespace Go.Proofs.Ytoepodjpempcdaa
open Go.RowKit

theorem satClip_c (n a b : Int) (w : World) : Calls Try.prog 35 #[.int .i64 n, .int .i64 a, .int .i64 b] w fun e w' => e = .returned (.int .i64 (iclip n a b)) ∧ w = w' := by
  by_cases h : n < a
  · go_enter Try.func35, Try.ntmps35
    go_wp2
    go_ret
    exact ⟨ret_int (by rw [iclip, if_pos h]), rfl⟩
  · go_enter Try.func35, Try.ntmps35
    go_wp2
    go_ret
    exact ⟨ret_int (by rw [iclip, if_neg (by omega)]), rfl⟩

theorem satLess_c (a b : Int) (w : World) (ha : -9223372036854775808 ≤ a ∧ a ≤ 9223372036854775807) (hb : -9223372036854775808 ≤ b ∧ b ≤ 9223372036854775807) : Calls Try.prog 23 #[.int .i64 a, .int .i64 b] w fun e w' => e = .returned (.int .i64 (iless a b)) ∧ w = w' := by
  have h1 : -9223372036854775808 ≤ max a 0 - max b 0 := by omega
  have h2 : max a 0 - max b 0 ≤ 9223372036854775807 := by omega
  go_enter Try.func23, Try.ntmps23
  go_wp2_with (first
    | (go_at_call 36; refine (satNatural_c _ _).mono ?_; rintro e w1 ⟨rfl, rfl⟩))
  go_ret
  exact ⟨rfl, rfl⟩

theorem satOver_c (a b : Int) (w : World) (ha : a ≤ 9223372036854775807) (hb : b ≤ 9223372036854775807) : Calls Try.prog 27 #[.int .i64 a, .int .i64 b] w fun e w' => e = .returned (.int .i64 (iover a b)) ∧ w = w' := by
  have hbd := iover_bd a b
  have HU : iover a b = if 0 < max a 0 % max b 1 then max a 0 / max b 1 + 1 else max a 0 / max b 1 := rfl
  obtain ⟨x, hx⟩ : ∃ x, max a 0 = x := ⟨_, rfl⟩
  obtain ⟨y, hy⟩ : ∃ y, max b 1 = y := ⟨_, rfl⟩
  have hx0 : 0 ≤ x := by omega
  have hy0 : 1 ≤ y := by omega
  have hx1 : x ≤ 9223372036854775807 := by omega
  have hy1 : y ≤ 9223372036854775807 := by omega
  have hq := Int.ediv_nonneg hx0 (show 0 ≤ y by omega)
  have hr := Int.emod_nonneg x (show y ≠ 0 by omega)
  rw [hx, hy] at HU
  rw [HU] at hbd
  have HX := Lib.hid HU
  clear HU
  by_cases h : 0 < x % y
  · rw [if_pos h] at hbd
    obtain ⟨hb1, hb2⟩ := hbd
    go_enter Try.func27, Try.ntmps27
    go_wp2_with (first
      | (go_at_call 36; refine (satNatural_c _ _).mono ?_; rintro e w1 ⟨rfl, rfl⟩))
    go_ret
    exact ⟨ret_int (by rw [HX.out, if_pos h]), rfl⟩
  · rw [if_neg h] at hbd
    obtain ⟨hb1, hb2⟩ := hbd
    go_enter Try.func27, Try.ntmps27
    go_wp2_with (first
      | (go_at_call 36; refine (satNatural_c _ _).mono ?_; rintro e w1 ⟨rfl, rfl⟩))
    go_ret
    exact ⟨ret_int (by rw [HX.out, if_neg (by omega)]), rfl⟩

def InI64 (l : List Int) : Prop := ∀ x ∈ l, -9223372036854775808 ≤ x ∧ x ≤ 9223372036854775807

set_option maxHeartbeats 400000 in
theorem satAdd_c (m : Int) (v : Value) (l : List Int) (w : World) (hm : m ≤ 9223372036854775807) (hl : IntsAt w v l) (hlen : l.length ≤ 9223372036854775807) (hr : InI64 l) :
    Calls Try.prog 25 #[.int .i64 m, v] w fun e w' => e = .returned (.int .i64 (sadd (max m 0) l)) ∧ Below w.heap.size w w' := by
  have hmf : ∀ (fn : Fn) (first cap : Array Value) (w : World), (Instr.makeFunc fn first cap).run Try.prog w = .ok (.func fn first cap) w := fun _ _ _ _ => rfl
  have hm0 : 0 ≤ max m 0 := by omega
  have hm1 : max m 0 ≤ 9223372036854775807 := by omega
  have hB : Below w.heap.size w (w.alloc (.cells #[.int .i64 (max m 0)] 3)) := (Below.refl _ _).alloc (Nat.le_refl _) _
  have hc : (w.alloc (.cells #[.int .i64 (max m 0)] 3)).cell? ⟨w.heap.size, 0, none⟩ = some (.int .i64 (max m 0)) := World.cell?_alloc_at _ _ _ _ rfl
  have HL := Lib.hid (hl.below hB)
  have HR := Lib.hid hr
  clear hl hr
  go_enter Try.func25, Try.ntmps25
  go_wp2_with (first
    | (go_at_call 36; refine (satNatural_c _ _).mono ?_; rintro e w1 ⟨rfl, rfl⟩)
    | (go_at_call 37; refine (together_add (max m 0) w.heap.size v l _ hc hm0 hm1 HL.out hlen HR.out).mono ?_; rintro e w1 ⟨rfl, rfl⟩))
  go_ret
  exact ⟨rfl, hB⟩

set_option maxHeartbeats 400000 in
theorem satMul_c (m : Int) (v : Value) (l : List Int) (w : World) (hm : m ≤ 9223372036854775807) (hl : IntsAt w v l) (hlen : l.length ≤ 9223372036854775807) (hr : InI64 l) :
    Calls Try.prog 33 #[.int .i64 m, v] w fun e w' => e = .returned (.int .i64 (smul (max m 0) l)) ∧ Below w.heap.size w w' := by
  have hmf : ∀ (fn : Fn) (first cap : Array Value) (w : World), (Instr.makeFunc fn first cap).run Try.prog w = .ok (.func fn first cap) w := fun _ _ _ _ => rfl
  have hm0 : 0 ≤ max m 0 := by omega
  have hm1 : max m 0 ≤ 9223372036854775807 := by omega
  have hB : Below w.heap.size w (w.alloc (.cells #[.int .i64 (max m 0)] 3)) := (Below.refl _ _).alloc (Nat.le_refl _) _
  have hc : (w.alloc (.cells #[.int .i64 (max m 0)] 3)).cell? ⟨w.heap.size, 0, none⟩ = some (.int .i64 (max m 0)) := World.cell?_alloc_at _ _ _ _ rfl
  have HL := Lib.hid (hl.below hB)
  have HR := Lib.hid hr
  have H0 := Lib.hid (smul_nil (max m 0)).symm
  clear hl hr
  go_enter Try.func33, Try.ntmps33
  go_wp2_with (first
    | (go_at_call 36; refine (satNatural_c _ _).mono ?_; rintro e w1 ⟨rfl, rfl⟩)
    | (go_at_call 37; refine (together_mul (max m 0) _ w.heap.size v l _ H0.out hc hm0 hm1 HL.out hlen HR.out).mono ?_; rintro e w1 ⟨rfl, rfl⟩))
  go_ret
  exact ⟨rfl, hB⟩
end Go.Proofs.Ytoepodjpempcdaa
