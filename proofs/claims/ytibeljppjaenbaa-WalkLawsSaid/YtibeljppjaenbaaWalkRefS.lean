/- The walks of the document's answers for layer 5: what a move does, and the move that does so. -/
import Derived.Test.YtibeljppjaenbaaWalkRefC
namespace Go.Proofs.Ytibeljppjaenbaa
open Go.RowKit

/-- what a move does: steps on, and quarters to the left -/
def pln (m : Int × Int) : Int × Int := if m.1 = 1 then (cnt m, 0) else if m.1 = 2 then (-cnt m, 0) else if m.1 = 3 then (0, cnt m % 4) else if m.1 = 4 then (0, 3 * cnt m % 4) else (0, 0)

set_option maxHeartbeats 1000000 in
theorem refPlain_any (k n : Int) (w : World) : Calls Try.prog 46 #[.agg #[.int .i64 k, .int .i64 n]] w fun e w' => e = .returned (.tuple #[.int .i64 (pln (k, n)).1, .int .i64 (pln (k, n)).2]) ∧ Below w.heap.size w w' := by
  have hB : Below w.heap.size w (w.alloc (.cells #[.int .i64 k, .int .i64 n] 48)) := (Below.refl _ _).alloc (Nat.le_refl _) _
  have C0 := Cell2.new w (.int .i64 k) (.int .i64 n) 48
  have hp : pln (k, n) = if k = 1 then (cnt (k, n), 0) else if k = 2 then (-cnt (k, n), 0) else if k = 3 then (0, cnt (k, n) % 4) else if k = 4 then (0, 3 * cnt (k, n) % 4) else (0, 0) := rfl
  have hc := fun w => refCount_any k n w
  obtain ⟨c0, c1⟩ := cnt_bd (k, n)
  generalize pln (k, n) = R at *
  generalize cnt (k, n) = c at *
  have hm1 : Int.tmod c 4 = c % 4 := Int.tmod_eq_emod_of_nonneg (by omega)
  have hm2 : Int.tmod (3 * c) 4 = 3 * c % 4 := Int.tmod_eq_emod_of_nonneg (by omega)
  have HC := Lib.hid hc
  clear hc
  have hkind : k = 1 ∨ k = 2 ∨ k = 3 ∨ k = 4 ∨ (k ≠ 1 ∧ k ≠ 2 ∧ k ≠ 3 ∧ k ≠ 4) := by omega
  rcases hkind with rfl | rfl | rfl | rfl | ⟨n1, n2, n3, n4⟩
  · rw [if_pos rfl] at hp
    have HP := Lib.hid hp
    clear hp
    go_enter Try.func46, Try.ntmps46
    go_wp2_with (go_at_call 32; refine (HC.out _).mono ?_; rintro e w1 ⟨rfl, hb⟩; replace hB := hB.trans (hb.mono hB.size); replace C0 := C0.kept hb; have u0 := C0.c0; have u1 := C0.c1; clear hb)
    go_ret2
    exact ⟨by rw [HP.out]; rfl, hB⟩
  · rw [if_neg (by decide), if_pos rfl] at hp
    have HP := Lib.hid hp
    clear hp
    go_enter Try.func46, Try.ntmps46
    go_wp2_with (go_at_call 32; refine (HC.out _).mono ?_; rintro e w1 ⟨rfl, hb⟩; replace hB := hB.trans (hb.mono hB.size); replace C0 := C0.kept hb; have u0 := C0.c0; have u1 := C0.c1; clear hb)
    go_ret2
    exact ⟨by rw [HP.out]; rfl, hB⟩
  · rw [if_neg (by decide), if_neg (by decide), if_pos rfl] at hp
    have HP := Lib.hid hp
    clear hp
    go_enter Try.func46, Try.ntmps46
    go_wp2_with (go_at_call 32; refine (HC.out _).mono ?_; rintro e w1 ⟨rfl, hb⟩; replace hB := hB.trans (hb.mono hB.size); replace C0 := C0.kept hb; have u0 := C0.c0; have u1 := C0.c1; clear hb)
    go_ret2
    exact ⟨by rw [HP.out]; rfl, hB⟩
  · rw [if_neg (by decide), if_neg (by decide), if_neg (by decide), if_pos rfl] at hp
    have HP := Lib.hid hp
    clear hp
    go_enter Try.func46, Try.ntmps46
    go_wp2_with (go_at_call 32; refine (HC.out _).mono ?_; rintro e w1 ⟨rfl, hb⟩; replace hB := hB.trans (hb.mono hB.size); replace C0 := C0.kept hb; have u0 := C0.c0; have u1 := C0.c1; clear hb)
    go_ret2
    exact ⟨by rw [HP.out]; rfl, hB⟩
  · rw [if_neg n1, if_neg n2, if_neg n3, if_neg n4] at hp
    have HP := Lib.hid hp
    have m1 := beq_no' n1
    have m2 := beq_no' n2
    have m3 := beq_no' n3
    have m4 := beq_no' n4
    clear hp
    go_enter Try.func46, Try.ntmps46
    go_wp2_with (go_at_call 32; refine (HC.out _).mono ?_; rintro e w1 ⟨rfl, hb⟩; replace hB := hB.trans (hb.mono hB.size); replace C0 := C0.kept hb; have u0 := C0.c0; have u1 := C0.c1; clear hb)
    go_ret2
    exact ⟨by rw [HP.out]; rfl, hB⟩

/-- the move that does so -/
def one1 (s q : Int) : List (Int × Int) := if 0 < s then [(1, s)] else if s < 0 then [(2, -s)] else if q = 3 then [(4, 1)] else if 0 < q then [(3, q)] else []
theorem own_lit (w : World) (e : TypeId) (x y : Int) : PairsAt (w.alloc (.cells #[.int .i64 x, .int .i64 y] e)) (.slice (some ⟨w.heap.size, 0, none⟩) 1 1) [(x, y)] := by
  have o : OwnP (w.alloc (.cells #[.int .i64 x, .int .i64 y] e)) w.heap.size e (.slice (some ⟨w.heap.size, 0, none⟩) 1 1) [(x, y)] :=
    ⟨rfl, .inr ⟨w.heap.size, 1, #[.int .i64 x, .int .i64 y], rfl, Nat.le_refl _, heap_alloc_new w _, Nat.le_refl _, by decide, rfl, rfl⟩⟩
  exact o.pairs

set_option maxHeartbeats 1000000 in
theorem refOne_any (s q : Int) (w : World) (hs : -9223372036854775808 < s) : Calls Try.prog 48 #[.int .i64 s, .int .i64 q] w fun e w' => ∃ v, e = .returned v ∧ PairsAt w' v (one1 s q) ∧ Below w.heap.size w w' := by
  have ho : one1 s q = if 0 < s then [(1, s)] else if s < 0 then [(2, -s)] else if q = 3 then [(4, 1)] else if 0 < q then [(3, q)] else [] := rfl
  generalize one1 s q = R at *
  by_cases h1 : 0 < s
  · rw [if_pos h1] at ho
    subst ho
    go_enter Try.func48, Try.ntmps48
    go_wp2
    go_ret
    exact ⟨_, rfl, own_lit w _ _ _, (Below.refl _ _).alloc (Nat.le_refl _) _⟩
  · rw [if_neg h1] at ho
    by_cases h2 : s < 0
    · rw [if_pos h2] at ho
      subst ho
      go_enter Try.func48, Try.ntmps48
      go_wp2
      go_ret
      exact ⟨_, rfl, own_lit w _ _ _, (Below.refl _ _).alloc (Nat.le_refl _) _⟩
    · rw [if_neg h2] at ho
      by_cases h3 : q = 3
      · rw [if_pos h3] at ho
        subst ho
        subst h3
        go_enter Try.func48, Try.ntmps48
        go_wp2
        go_ret
        exact ⟨_, rfl, own_lit w _ _ _, (Below.refl _ _).alloc (Nat.le_refl _) _⟩
      · rw [if_neg h3] at ho
        have h3' := beq_no' h3
        by_cases h4 : 0 < q
        · rw [if_pos h4] at ho
          subst ho
          go_enter Try.func48, Try.ntmps48
          go_wp2
          go_ret
          exact ⟨_, rfl, own_lit w _ _ _, (Below.refl _ _).alloc (Nat.le_refl _) _⟩
        · rw [if_neg h4] at ho
          subst ho
          go_enter Try.func48, Try.ntmps48
          go_wp2
          go_ret
          exact ⟨_, rfl, PairsAt.nil _, Below.refl _ _⟩
end Go.Proofs.Ytibeljppjaenbaa
