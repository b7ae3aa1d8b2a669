/- Stage 12: the document's Is, List, Of, Has. -/
import Derived.Test.YtlgemfgikdaelaaSkillMath
import Derived.Test.YtlgemfgikdaelaaOwnInts
import Derived.Test.YtlgemfgikdaelaaOwnO
namespace Go.Proofs.Ytlgemfgikdaelaa
open Go.RowKit

theorem half_step (w k : Nat) : ((w / 2 ^ k : Nat) : Int) / 2 = ((w / 2 ^ (k + 1) : Nat) : Int) := by
  rw [Nat.pow_succ, ← Nat.div_div_eq_div_mul]
  omega

set_option maxHeartbeats 2000000 in
theorem refIs_any (w n : Nat) (W : World) (hw : w < 2 ^ 64) (hn : n < 64) :
    Calls Try.prog 39 #[.int .u64 (w : Int), .int .i64 (n : Int)] W fun e w' => e = .returned (.bool (w.testBit n)) ∧ W = w' := by
  have n0 : (0 : Int) ≤ (n : Int) := by omega
  have n1 : (n : Int) ≤ 63 := by omega
  go_enter Try.func39, Try.ntmps39
  go_wp2
  go_loopw [0, 5] (fun wv iv wr => ∃ k : Nat, k ≤ n ∧ iv = .int .i64 k ∧ wv = .int .u64 ((w / 2 ^ k : Nat) : Int) ∧ W = wr) (fun _ iv _ => n - (Go.RowKit.intOf iv).toNat)
  case atStart => exact ⟨0, Nat.zero_le _, rfl, by simp, rfl⟩
  case round =>
    obtain ⟨k, hk, rfl, rfl, rfl⟩ := hrel
    have hs := half_step w k
    have hbd : w / 2 ^ k < 2 ^ 64 := Nat.lt_of_le_of_lt (Nat.div_le_self _ _) hw
    by_cases hlt : k < n
    · have k0 : (0 : Int) ≤ (k : Int) := by omega
      have k1 : (k : Int) < (n : Int) := by omega
      generalize hx : w / 2 ^ k = x at *
      generalize hy : w / 2 ^ (k + 1) = y at *
      have HY := Lib.hid hy
      have x1 : (x : Int) ≤ 18446744073709551615 := by omega
      clear hx hy hbd
      go_wp2
      go_roundw
      case rel => exact ⟨k + 1, by omega, by go_num, by rw [HY.out], by trivial⟩
      case measure => simp [Go.RowKit.intOf] <;> omega
    · have hke : k = n := by omega
      subst hke
      have ht : w.testBit k = decide (((w / 2 ^ k : Nat) : Int) % 2 = 1) := by
        rw [Nat.testBit_eq_decide_div_mod_eq]
        exact decide_eq_decide.2 (by omega)
      have HT := Lib.hid ht
      obtain ⟨x, hx⟩ : ∃ x, w / 2 ^ k = x := ⟨_, rfl⟩
      rw [hx] at HT ⊢
      clear hs ht hbd hx
      go_wp2
      go_ret
      exact ⟨ret_b (by rw [HT.out]; by_cases h : (x : Int) % 2 = 1 <;> simp [h]), rfl⟩

/-- skills as numbers of a list -/
def ints (l : List Nat) : List Int := l.map fun (n : Nat) => (n : Int)
theorem ints_append (a b : List Nat) : ints (a ++ b) = ints a ++ ints b := List.map_append
theorem ints_len (l : List Nat) : (ints l).length = l.length := List.length_map ..

theorem oneI (w : World) (n : Int) : RowsAt (w.alloc (.cells #[.int .i64 n] 3)) 1 csI (.slice (some ⟨w.heap.size, 0, none⟩) 1 1) [n] := by
  refine ⟨_, 1, rfl, Nat.le_refl _, fun _ => ⟨w.heap.size, 0, rfl, by simp, fun j x hj i u hu => ?_⟩⟩
  have h0 : j = 0 ∧ x = n := by
    cases j with
    | zero => simp at hj; exact ⟨rfl, hj.symm⟩
    | succ j => simp at hj
  obtain ⟨rfl, rfl⟩ := h0
  have h1 : i = 0 ∧ u = .int .i64 x := by
    cases i with
    | zero => simp [csI] at hu; exact ⟨rfl, hu.symm⟩
    | succ i => simp [csI] at hu
  obtain ⟨rfl, rfl⟩ := h1
  go_simp
theorem csI_one (n : Int) : ∀ u ∈ csI n, u.oneCell' = true := by
  intro u hu
  simp [csI] at hu
  subst hu
  rfl

set_option maxHeartbeats 4000000 in
set_option maxRecDepth 100000 in
theorem refHas_any (a b : Nat) (W : World) (ha : a < 2 ^ 64) (hb : b < 2 ^ 64) :
    Calls Try.prog 32 #[.int .u64 (a : Int), .int .u64 (b : Int)] W fun e w' => e = .returned (.bool (hasK a b 64)) ∧ W = w' := by
  go_enter Try.func32, Try.ntmps32
  go_wp2
  go_loopw [5] (fun iv wr => ∃ k : Nat, k ≤ 64 ∧ iv = .int .i64 k ∧ hasK a b k = true ∧ W = wr) (fun iv _ => 64 - (Go.RowKit.intOf iv).toNat)
  case atStart => exact ⟨0, by omega, rfl, rfl, rfl⟩
  case round =>
    obtain ⟨k, hk, rfl, hK, rfl⟩ := hrel
    by_cases hlt : k < 64
    · have G1 := Lib.hid fun W' => refIs_any b k W' hb hlt
      have G2 := Lib.hid fun W' => refIs_any a k W' ha hlt
      have hsu : hasK a b (k + 1) = (hasK a b k && (!b.testBit k || a.testBit k)) := rfl
      have hno : hasK a b (k + 1) = false → hasK a b 64 = false := fun h => by
        cases h1 : hasK a b 64 with
        | false => rfl
        | true =>
          have := (hasK_iff a b (k + 1)).2 fun n hn => (hasK_iff a b 64).1 h1 n (by omega)
          rw [this] at h
          cases h
      rw [hK, Bool.true_and] at hsu
      have k0 : (k : Int) < 64 := by omega
      generalize b.testBit k = tb at *
      generalize a.testBit k = ta at *
      have HS := Lib.hid hsu
      have HN := Lib.hid hno
      clear hsu hno hK
      cases tb <;> cases ta
      case true.false =>
        go_wp2_with (first
          | (go_at_call 39; (with_reducible refine (G1.out _).mono ?_); rintro e w1 ⟨rfl, rfl⟩)
          | (go_at_call 39; (with_reducible refine (G2.out _).mono ?_); rintro e w1 ⟨rfl, rfl⟩))
        go_ret
        exact ⟨ret_b (HN.out HS.out).symm, rfl⟩
      all_goals
        go_wp2_with (first
          | (go_at_call 39; (with_reducible refine (G1.out _).mono ?_); rintro e w1 ⟨rfl, rfl⟩)
          | (go_at_call 39; (with_reducible refine (G2.out _).mono ?_); rintro e w1 ⟨rfl, rfl⟩))
        go_roundw
        case rel => exact ⟨k + 1, by omega, by go_num, HS.out, by trivial⟩
        case measure => simp [Go.RowKit.intOf] <;> omega
    · have hke : k = 64 := by omega
      subst hke
      have HK := Lib.hid hK
      clear hK
      go_wp2
      go_ret
      exact ⟨ret_b HK.out.symm, rfl⟩
end Go.Proofs.Ytlgemfgikdaelaa
