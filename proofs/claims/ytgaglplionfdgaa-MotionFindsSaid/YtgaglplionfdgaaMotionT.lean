/- The walks of Times, the program's and the document's. -/
import Derived.Test.YtgaglplionfdgaaMotionR
namespace Go.Proofs.Ytgaglplionfdgaa
open Go.RowKit

/-- a motion done k times -/
def mst (n x y : Int) : Nat → Int × Int × Int
  | 0 => (0, 0, 0)
  | k + 1 => ((((qr (mst n x y k).1 + qr n) % 4 : Nat) : Int), (rot (qr n) (fx (mst n x y k).2.1) (fx (mst n x y k).2.2)).1 + fx x, (rot (qr n) (fx (mst n x y k).2.1) (fx (mst n x y k).2.2)).2 + fx y)

set_option maxHeartbeats 1000000 in
theorem mtimes_any (n x y c : Int) (w : World) : Calls Try.prog 16 #[.agg #[.int .i64 n, .int .i64 x, .int .i64 y], .int .i64 c] w fun e w' => e = .returned (.agg #[.int .i64 (mst n x y (min c 1000).toNat).1, .int .i64 (mst n x y (min c 1000).toNat).2.1, .int .i64 (mst n x y (min c 1000).toNat).2.2]) ∧ Below w.heap.size w w' := by
  obtain ⟨m, hm⟩ : ∃ m, min c 1000 = m := ⟨_, rfl⟩
  have hm1 : m ≤ 1000 := by omega
  rw [hm]
  obtain ⟨N, hN⟩ : ∃ N : Nat, m.toNat = N := ⟨_, rfl⟩
  rw [hN]
  have hB : Below w.heap.size w (((w.alloc (.cells #[.int .i64 n, .int .i64 x, .int .i64 y] 25)).alloc (.cells #[.int .i64 0, .int .i64 0, .int .i64 0] 25)).alloc (.cells #[.int .i64 0, .int .i64 0, .int .i64 0] 25)) := (((Below.refl _ _).alloc (Nat.le_refl _) _).alloc (by simp) _).alloc (by simp; omega) _
  have C0 := ((Cell3.new w (.int .i64 n) (.int .i64 x) (.int .i64 y) 25).alloc (.cells #[.int .i64 0, .int .i64 0, .int .i64 0] 25)).alloc (.cells #[.int .i64 0, .int .i64 0, .int .i64 0] 25)
  have C1 := (Cell3.new (w.alloc (.cells #[.int .i64 n, .int .i64 x, .int .i64 y] 25)) (.int .i64 0) (.int .i64 0) (.int .i64 0) 25).alloc (.cells #[.int .i64 0, .int .i64 0, .int .i64 0] 25)
  have C2 := Cell3.new ((w.alloc (.cells #[.int .i64 n, .int .i64 x, .int .i64 y] 25)).alloc (.cells #[.int .i64 0, .int .i64 0, .int .i64 0] 25)) (.int .i64 0) (.int .i64 0) (.int .i64 0) 25
  simp only [World.size_alloc] at C0 C1 C2
  go_enter Try.func16, Try.ntmps16
  go_wp2
  go_loopw [8] (fun i wr => ∃ k : Nat, k ≤ N ∧ i = .int .i64 k ∧ Below w.heap.size w wr ∧ Cell3 wr w.heap.size (.int .i64 n) (.int .i64 x) (.int .i64 y) ∧ Cell3 wr (w.heap.size + 1) (.int .i64 0) (.int .i64 0) (.int .i64 0) ∧ Cell3 wr (w.heap.size + 1 + 1) (.int .i64 (mst n x y k).1) (.int .i64 (mst n x y k).2.1) (.int .i64 (mst n x y k).2.2)) (fun i _ => N - (intOf i).toNat)
  case atStart => exact ⟨0, Nat.zero_le _, rfl, hB, C0, C1, C2⟩
  case round =>
    clear hB C0 C1 C2
    obtain ⟨k, hk, rfl, hB, C0, C1, C2⟩ := hrel
    by_cases hlt : k < N
    · have hkm : (k : Int) < m := by omega
      have h1 := fun w => mthen_any (mst n x y k).1 (mst n x y k).2.1 (mst n x y k).2.2 n x y w
      have hr : mst n x y (k + 1) = ((((qr (mst n x y k).1 + qr n) % 4 : Nat) : Int), (rot (qr n) (fx (mst n x y k).2.1) (fx (mst n x y k).2.2)).1 + fx x, (rot (qr n) (fx (mst n x y k).2.1) (fx (mst n x y k).2.2)).2 + fx y) := rfl
      generalize (((qr (mst n x y k).1 + qr n) % 4 : Nat) : Int) = T' at h1 hr
      generalize (rot (qr n) (fx (mst n x y k).2.1) (fx (mst n x y k).2.2)).1 + fx x = X' at h1 hr
      generalize (rot (qr n) (fx (mst n x y k).2.1) (fx (mst n x y k).2.2)).2 + fx y = Y' at h1 hr
      generalize mst n x y k = s at *
      obtain ⟨T, X, Y⟩ := s
      have H1 := Lib.hid h1
      have HR := Lib.hid hr
      clear h1 hr hN hm
      have u0 := C0.c0
      have u1 := C0.c1
      have u2 := C0.c2
      have v0 := C2.c0
      have v1 := C2.c1
      have v2 := C2.c2
      simp only at v0 v1 v2
      go_wp2_with (go_at_call 11; refine (H1.out _).mono ?_; rintro e w1 ⟨rfl, hb⟩; replace hB := hB.trans (hb.mono hB.size); replace C0 := C0.kept hb; replace C1 := C1.kept hb; replace C2 := C2.kept hb; clear hb u0 u1 u2 v0 v1 v2; obtain ⟨v0, v1, v2, z0, z1, z2⟩ := C2)
      go_roundw
      case rel => exact ⟨k + 1, by omega, by go_num, ((hB.setCell (by simp; omega) _).setCell (by simp; omega) _).setCell (by simp; omega) _, ((C0.away _ _ (show w.heap.size + 1 + 1 ≠ w.heap.size by omega)).away _ _ (show w.heap.size + 1 + 1 ≠ w.heap.size by omega)).away _ _ (show w.heap.size + 1 + 1 ≠ w.heap.size by omega), ((C1.away _ _ (show w.heap.size + 1 + 1 ≠ w.heap.size + 1 by omega)).away _ _ (show w.heap.size + 1 + 1 ≠ w.heap.size + 1 by omega)).away _ _ (show w.heap.size + 1 + 1 ≠ w.heap.size + 1 by omega), by rw [HR.out]; exact (Cell3.mk v0 v1 v2 z0 z1 z2).set _ _ _⟩
      case measure => simp [intOf]; omega
    · have hkm : ¬ (k : Int) < m := by omega
      have hkN : k = N := by omega
      subst hkN
      obtain ⟨⟨T, X, Y⟩, hs⟩ : ∃ s, mst n x y k = s := ⟨_, rfl⟩
      rw [hs] at C2
      obtain ⟨v0, v1, v2, z0, z1, z2⟩ := C2
      obtain ⟨g0, g1, g2, y0, y1, y2⟩ := C1
      have HS := Lib.hid hs
      clear hN hm hs
      simp only at v0 v1 v2
      go_wp2
      refine bodyPost_ret (v := .agg #[.int .i64 T, .int .i64 X, .int .i64 Y]) ?_ rfl ⟨by rw [HS.out], ((hB.setCell (by simp) _).setCell (by simp) _).setCell (by simp) _⟩
      simp [results, Try.results16, go_sem, g0, g1, g2, y0, y1, y2]
set_option maxHeartbeats 1000000 in
theorem refMTimes_any (n x y c : Int) (w : World) : Calls Try.prog 17 #[.agg #[.int .i64 n, .int .i64 x, .int .i64 y], .int .i64 c] w fun e w' => e = .returned (.agg #[.int .i64 (mst n x y (min c 1000).toNat).1, .int .i64 (mst n x y (min c 1000).toNat).2.1, .int .i64 (mst n x y (min c 1000).toNat).2.2]) ∧ Below w.heap.size w w' := by
  obtain ⟨m, hm⟩ : ∃ m, min c 1000 = m := ⟨_, rfl⟩
  have hm1 : m ≤ 1000 := by omega
  rw [hm]
  obtain ⟨N, hN⟩ : ∃ N : Nat, m.toNat = N := ⟨_, rfl⟩
  rw [hN]
  have hB : Below w.heap.size w (((w.alloc (.cells #[.int .i64 n, .int .i64 x, .int .i64 y] 25)).alloc (.cells #[.int .i64 0, .int .i64 0, .int .i64 0] 25)).alloc (.cells #[.int .i64 0, .int .i64 0, .int .i64 0] 25)) := (((Below.refl _ _).alloc (Nat.le_refl _) _).alloc (by simp) _).alloc (by simp; omega) _
  have C0 := ((Cell3.new w (.int .i64 n) (.int .i64 x) (.int .i64 y) 25).alloc (.cells #[.int .i64 0, .int .i64 0, .int .i64 0] 25)).alloc (.cells #[.int .i64 0, .int .i64 0, .int .i64 0] 25)
  have C1 := (Cell3.new (w.alloc (.cells #[.int .i64 n, .int .i64 x, .int .i64 y] 25)) (.int .i64 0) (.int .i64 0) (.int .i64 0) 25).alloc (.cells #[.int .i64 0, .int .i64 0, .int .i64 0] 25)
  have C2 := Cell3.new ((w.alloc (.cells #[.int .i64 n, .int .i64 x, .int .i64 y] 25)).alloc (.cells #[.int .i64 0, .int .i64 0, .int .i64 0] 25)) (.int .i64 0) (.int .i64 0) (.int .i64 0) 25
  simp only [World.size_alloc] at C0 C1 C2
  go_enter Try.func17, Try.ntmps17
  go_wp2
  go_loopw [6] (fun i wr => ∃ k : Nat, k ≤ N ∧ i = .int .i64 k ∧ Below w.heap.size w wr ∧ Cell3 wr w.heap.size (.int .i64 n) (.int .i64 x) (.int .i64 y) ∧ Cell3 wr (w.heap.size + 1) (.int .i64 0) (.int .i64 0) (.int .i64 0) ∧ Cell3 wr (w.heap.size + 1 + 1) (.int .i64 (mst n x y k).1) (.int .i64 (mst n x y k).2.1) (.int .i64 (mst n x y k).2.2)) (fun i _ => N - (intOf i).toNat)
  case atStart => exact ⟨0, Nat.zero_le _, rfl, hB, C0, C1, C2⟩
  case round =>
    clear hB C0 C1 C2
    obtain ⟨k, hk, rfl, hB, C0, C1, C2⟩ := hrel
    by_cases hlt : k < N
    · have hkm : (k : Int) < c := by omega
      have hkt : (k : Int) < 1000 := by omega
      have h1 := fun w => refMThen_any (mst n x y k).1 (mst n x y k).2.1 (mst n x y k).2.2 n x y w
      have hr : mst n x y (k + 1) = ((((qr (mst n x y k).1 + qr n) % 4 : Nat) : Int), (rot (qr n) (fx (mst n x y k).2.1) (fx (mst n x y k).2.2)).1 + fx x, (rot (qr n) (fx (mst n x y k).2.1) (fx (mst n x y k).2.2)).2 + fx y) := rfl
      generalize (((qr (mst n x y k).1 + qr n) % 4 : Nat) : Int) = T' at h1 hr
      generalize (rot (qr n) (fx (mst n x y k).2.1) (fx (mst n x y k).2.2)).1 + fx x = X' at h1 hr
      generalize (rot (qr n) (fx (mst n x y k).2.1) (fx (mst n x y k).2.2)).2 + fx y = Y' at h1 hr
      generalize mst n x y k = s at *
      obtain ⟨T, X, Y⟩ := s
      have H1 := Lib.hid h1
      have HR := Lib.hid hr
      clear h1 hr hN hm
      have u0 := C0.c0
      have u1 := C0.c1
      have u2 := C0.c2
      have v0 := C2.c0
      have v1 := C2.c1
      have v2 := C2.c2
      simp only at v0 v1 v2
      go_wp2_with (go_at_call 12; refine (H1.out _).mono ?_; rintro e w1 ⟨rfl, hb⟩; replace hB := hB.trans (hb.mono hB.size); replace C0 := C0.kept hb; replace C1 := C1.kept hb; replace C2 := C2.kept hb; clear hb u0 u1 u2 v0 v1 v2; obtain ⟨v0, v1, v2, z0, z1, z2⟩ := C2)
      go_roundw
      case rel => exact ⟨k + 1, by omega, by go_num, ((hB.setCell (by simp; omega) _).setCell (by simp; omega) _).setCell (by simp; omega) _, ((C0.away _ _ (show w.heap.size + 1 + 1 ≠ w.heap.size by omega)).away _ _ (show w.heap.size + 1 + 1 ≠ w.heap.size by omega)).away _ _ (show w.heap.size + 1 + 1 ≠ w.heap.size by omega), ((C1.away _ _ (show w.heap.size + 1 + 1 ≠ w.heap.size + 1 by omega)).away _ _ (show w.heap.size + 1 + 1 ≠ w.heap.size + 1 by omega)).away _ _ (show w.heap.size + 1 + 1 ≠ w.heap.size + 1 by omega), by rw [HR.out]; exact (Cell3.mk v0 v1 v2 z0 z1 z2).set _ _ _⟩
      case measure => simp [intOf]; omega
    · have hkm : (k : Int) < c → ¬ (k : Int) < 1000 := by omega
      have hkN : k = N := by omega
      subst hkN
      obtain ⟨⟨T, X, Y⟩, hs⟩ : ∃ s, mst n x y k = s := ⟨_, rfl⟩
      rw [hs] at C2
      obtain ⟨v0, v1, v2, z0, z1, z2⟩ := C2
      obtain ⟨g0, g1, g2, y0, y1, y2⟩ := C1
      have HS := Lib.hid hs
      simp only at v0 v1 v2
      by_cases hkc : (k : Int) < c
      all_goals
        first | replace hkm := hkm hkc | clear hkm
        clear hN hm hs hm1 hlt hk
        go_wp2
        refine bodyPost_ret (v := .agg #[.int .i64 T, .int .i64 X, .int .i64 Y]) ?_ rfl ⟨by rw [HS.out], ((hB.setCell (by simp) _).setCell (by simp) _).setCell (by simp) _⟩
        simp [results, Try.results17, go_sem, g0, g1, g2, y0, y1, y2]
end Go.Proofs.Ytgaglplionfdgaa
