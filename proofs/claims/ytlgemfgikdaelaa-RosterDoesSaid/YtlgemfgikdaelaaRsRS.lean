/- Stage 25's document: Same, where both rows are the same. -/
import Derived.Test.YtlgemfgikdaelaaRsN
import Derived.Test.YtlgemfgikdaelaaOwnInts
import Derived.Test.YtlgemfgikdaelaaLabels
import Derived.Deep.LoopGhost
import Derived.Deep.CutBlock
namespace Go.Proofs.Ytlgemfgikdaelaa
open Go.RowKit

theorem hd_at {w : World} {v : Value} {L : List Hd} (h : RowsAt w 3 csHd v L) (k : Nat) (hk : k < L.length) :
    ∃ g o c, v = .slice (some ⟨g, o, none⟩) L.length c ∧ L.length ≤ c ∧ g < w.heap.size ∧ w.cell? ⟨g, o + k * 3, none⟩ = some (.int .i64 L[k].id) ∧ w.cell? ⟨g, o + k * 3 + 1, none⟩ = some (.int .u64 (L[k].bits : Int)) ∧
      w.cell? ⟨g, o + k * 3 + 2, none⟩ = some (.bool L[k].on) := by
  obtain ⟨g, o, c, e, h1, h2, h3⟩ := h.spot k hk
  exact ⟨g, o, c, e, h1, h2, h3 0 _ rfl, h3 1 _ rfl, h3 2 _ rfl⟩
set_option maxHeartbeats 8000000 in
set_option maxRecDepth 100000 in
theorem refSame25_any (va vb : Value) (H : List Hd) (W : World) (ha : RowsAt W 3 csHd va H) (hb : RowsAt W 3 csHd vb H) (hl : H.length ≤ 1000) :
    Calls Try.prog 16 #[va, vb] W fun e w' => e = .returned (.bool true) ∧ Below W.heap.size W w' := by
  obtain ⟨a, c, rfl⟩ := RowsAt.form ha
  obtain ⟨b, d, rfl⟩ := RowsAt.form hb
  have HV := Lib.hid ha
  have HT := Lib.hid hb
  have l2 : (H.length : Int) ≤ 1000 := by omega
  clear ha hb hl
  go_enter Try.func16, Try.ntmps16
  go_wp2
  go_loopg [5] H.length (fun kx iv ws => ∃ k : Nat, k ≤ H.length ∧ H.length - k ≤ kx ∧ iv = .int .i64 k ∧ Hid (Below W.heap.size W ws))
  case atStart => exact ⟨0, Nat.zero_le _, Nat.le_refl _, rfl, Below.refl _ _⟩
  case round =>
    obtain ⟨k, hk, hkx, rfl, HB⟩ := hrel
    by_cases hlt : k < H.length
    · obtain ⟨g, o, cc, e, -, -, p0, p1, p2⟩ := hd_at (RowsAt.kept HV.out HB.out) k hlt
      simp only [Value.slice.injEq] at e
      obtain ⟨rfl, -, rfl⟩ := e
      obtain ⟨g', o', cc', e, -, -, q0, q1, q2⟩ := hd_at (RowsAt.kept HT.out HB.out) k hlt
      simp only [Value.slice.injEq] at e
      obtain ⟨rfl, -, rfl⟩ := e
      generalize H[k] = x at *
      obtain ⟨id, bi, on⟩ := x
      dsimp only at p0 p1 p2 q0 q1 q2
      have HLT := Lib.hid (And.intro hlt hkx)
      have k0 : (0 : Int) ≤ (k : Int) := by omega
      have k1 : (k : Int) < (H.length : Int) := by omega
      clear hlt hkx hk
      go_upto_region 6 with fail
      refine wp_region_calm0 (by kernel_rfl) (by kernel_rfl) fun M => ?_
      have m0 := fun n : In M.w => n.cell (M.cell p0)
      have m1 := fun n : In M.w => n.cell (M.cell p1)
      have m2 := fun n : In M.w => n.cell (M.cell p2)
      have m3 := fun n : In M.w => n.cell (M.cell q0)
      have m4 := fun n : In M.w => n.cell (M.cell q1)
      have m5 := fun n : In M.w => n.cell (M.cell q2)
      repeat (go_big_quiet_step (fail))
      refine wpQuiet_nil ?_
      intro w10 hb10
      have HB10 := Lib.hid (HB.out.trans (hb10.mono HB.out.size))
      clear m0 m1 m2 m3 m4 m5 M hb10 p0 p1 p2 q0 q1 q2
      go_wp2
      go_roundg (H.length - (k + 1))
      case measure => have := HLT.out; omega
      case rel => exact ⟨k + 1, by have := HLT.out; omega, Nat.le_refl _, by go_num, HB10.out⟩
    · have e : k = H.length := by omega
      subst e
      clear hlt hk hkx
      go_wp2
      go_ret
      exact ⟨rfl, HB.out⟩
end Go.Proofs.Ytlgemfgikdaelaa
