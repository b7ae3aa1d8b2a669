/- The walks of package fence: its small functions. -/
import Derived.Test.YthndmoipemnllaaFenceRefF
import Derived.Test.YthndmoipemnllaaFloatBig
import Derived.Test.YthndmoipemnllaaMotionC
import Derived.Test.YthndmoipemnllaaWalkRefA
import Derived.Test.YthndmoipemnllaaWalkRefN
namespace Go.Proofs.Ythndmoipemnllaa
open Go.RowKit
attribute [local go_sem] store_complex

theorem ord_lt {a b : Nat} {x y : Int} (ha : Fl a x) (hb : Fl b y) : (FloatKind.f64.format.order a b == some .lt) = decide (x < y) := by
  rw [order_whole ha hb]
  rcases Int.lt_trichotomy x y with h | h | h
  · rw [show compare x y = .lt from Int.compare_eq_lt.2 h, decide_eq_true h]; rfl
  · rw [show compare x y = .eq from Int.compare_eq_eq.2 h, decide_eq_false (by omega)]; rfl
  · rw [show compare x y = .gt from Int.compare_eq_gt.2 h, decide_eq_false (by omega)]; rfl
theorem ord_gt {a b : Nat} {x y : Int} (ha : Fl a x) (hb : Fl b y) : (FloatKind.f64.format.order a b == some .gt) = decide (y < x) := by
  rw [order_whole ha hb]
  rcases Int.lt_trichotomy x y with h | h | h
  · rw [show compare x y = .lt from Int.compare_eq_lt.2 h, decide_eq_false (by omega)]; rfl
  · rw [show compare x y = .eq from Int.compare_eq_eq.2 h, decide_eq_false (by omega)]; rfl
  · rw [show compare x y = .gt from Int.compare_eq_gt.2 h, decide_eq_true h]; rfl

theorem fnumber_any (x y : Int) (w : World) : Calls Try.prog 24 #[.agg #[.int .i64 x, .int .i64 y]] w fun e w' => e = .returned (.complex .f64 (fl x) (fl y)) ∧ Below w.heap.size w w' := by
  go_enter Try.func24, Try.ntmps24
  go_wp2
  go_ret
  exact ⟨rfl, (Below.refl _ _).alloc (Nat.le_refl _) _⟩

theorem fmirrored_any (p q : Nat) (w : World) : Calls Try.prog 34 #[.complex .f64 p q] w fun e w' => e = .returned (.complex .f64 p (Op.negFloat .f64 q)) ∧ w = w' := by
  have hn : Op.unary .neg (.float .f64 q) = pure (.float .f64 (Op.negFloat .f64 q)) := rfl
  go_enter Try.func34, Try.ntmps34
  go_wp2
  go_ret
  exact ⟨rfl, rfl⟩

theorem fstraight_any (p q : Nat) (x y : Int) (hp : Fl p x) (hq : Fl q y) (w : World) : Calls Try.prog 27 #[.complex .f64 p q] w fun e w' => e = .returned (.bool (decide (x = 0) != decide (y = 0))) ∧ w = w' := by
  have h1 := ord_eq hp zero_whole
  have h2 := ord_eq hq zero_whole
  generalize decide (x = 0) = a at *
  generalize decide (y = 0) = b at *
  clear hp hq
  go_enter Try.func27, Try.ntmps27
  go_wp2
  go_ret
  exact ⟨rfl, rfl⟩

theorem fsquare_any (a b c d : Nat) (x y u v : Int) (ha : Fl a x) (hb : Fl b y) (hc : Fl c u) (hd : Fl d v) (h1 : (x * u).natAbs < 2 ^ 52) (h2 : (y * v).natAbs < 2 ^ 52) (h3 : (x * v).natAbs < 2 ^ 52) (h4 : (y * u).natAbs < 2 ^ 52) (w : World) :
    Calls Try.prog 28 #[.complex .f64 a b, .complex .f64 c d] w fun e w' => e = .returned (.bool (decide (x * u - y * v = 0))) ∧ w = w' := by
  obtain ⟨hrun, hre, _⟩ := cMul_run 41 ha hb hc hd h1 h2 h3 h4
  have h0 := ord_eq hre zero_whole
  generalize decide (x * u - y * v = 0) = t at *
  clear ha hb hc hd h1 h2 h3 h4 hre
  go_enter Try.func28, Try.ntmps28
  go_wp2
  go_ret
  exact ⟨rfl, rfl⟩

/-- what an edge from y to z adds at height c -/
def pss (y z c : Int) : Int := if y ≤ c ∧ c < z then 1 else if z ≤ c ∧ c < y then -1 else 0

theorem fpasses_any (p q r : Nat) (y z c : Int) (hp : Fl p y) (hq : Fl q z) (hr : Fl r c) (w : World) : Calls Try.prog 37 #[.float .f64 p, .float .f64 q, .float .f64 r] w fun e w' => e = .returned (.int .i64 (pss y z c)) ∧ w = w' := by
  have a1 := ord_lt hp hr
  have a2 := ord_eq hp hr
  have a3 := ord_lt hr hq
  have a4 := ord_lt hq hr
  have a5 := ord_eq hq hr
  have a6 := ord_lt hr hp
  by_cases h1 : y ≤ c
  · by_cases h2 : c < z
    · have e : pss y z c = 1 := if_pos ⟨h1, h2⟩
      rw [e]
      have b1 : (FloatKind.f64.format.order p r == some .lt || FloatKind.f64.format.order p r == some .eq) = true := by rw [a1, a2]; simp; omega
      rw [decide_eq_true h2] at a3
      clear a1 a2 a4 a5 a6 e h1 h2 hp hq hr
      go_enter Try.func37, Try.ntmps37
      go_wp2
      go_ret
      exact ⟨rfl, rfl⟩
    · have e : pss y z c = 0 := by unfold pss; rw [if_neg (by omega), if_neg (by omega)]
      rw [e]
      have b1 : (FloatKind.f64.format.order p r == some .lt || FloatKind.f64.format.order p r == some .eq) = true := by rw [a1, a2]; simp; omega
      have b2 : (FloatKind.f64.format.order q r == some .lt || FloatKind.f64.format.order q r == some .eq) = true := by rw [a4, a5]; simp; omega
      rw [decide_eq_false h2] at a3
      rw [decide_eq_false (by omega)] at a6
      clear a1 a2 a4 a5 e h1 h2 hp hq hr
      go_enter Try.func37, Try.ntmps37
      go_wp2
      go_ret
      exact ⟨rfl, rfl⟩
  · have b1 : (FloatKind.f64.format.order p r == some .lt || FloatKind.f64.format.order p r == some .eq) = false := by rw [a1, a2]; simp; omega
    by_cases h2 : z ≤ c
    · have e : pss y z c = -1 := by unfold pss; rw [if_neg (by omega), if_pos (by omega)]
      rw [e]
      have b2 : (FloatKind.f64.format.order q r == some .lt || FloatKind.f64.format.order q r == some .eq) = true := by rw [a4, a5]; simp; omega
      rw [decide_eq_true (by omega)] at a6
      clear a1 a2 a3 a4 a5 e h1 h2 hp hq hr
      go_enter Try.func37, Try.ntmps37
      go_wp2
      go_ret
      exact ⟨rfl, rfl⟩
    · have e : pss y z c = 0 := by unfold pss; rw [if_neg (by omega), if_neg (by omega)]
      rw [e]
      have b2 : (FloatKind.f64.format.order q r == some .lt || FloatKind.f64.format.order q r == some .eq) = false := by rw [a4, a5]; simp; omega
      clear a1 a2 a3 a4 a5 a6 e h1 h2 hp hq hr
      go_enter Try.func37, Try.ntmps37
      go_wp2
      go_ret
      exact ⟨rfl, rfl⟩
end Go.Proofs.Ythndmoipemnllaa
