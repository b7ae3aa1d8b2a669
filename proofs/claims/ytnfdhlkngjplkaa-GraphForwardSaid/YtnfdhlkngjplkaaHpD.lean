/- Stage 13's program: the one below that is ahead; down. -/
import Derived.Test.YtnfdhlkngjplkaaHpC
namespace Go.Proofs.Ytnfdhlkngjplkaa
open Go.RowKit

/-- c is the one below i that is ahead; beyond the end, if there is none -/
structure Under (T : List Th) (i c : Nat) : Prop where
  who : c = 2 * i + 1 ∨ c = 2 * i + 2
  all : ∀ k, 0 < k → k < T.length → par k = i → ahead (tg T k) (tg T c) = false
  some : T.length ≤ c → T.length ≤ 2 * i + 1

set_option maxHeartbeats 4000000 in
set_option maxRecDepth 100000 in
theorem hUnder_any {F : Nat → Prop} {p : Nat} {v : Value} {b m : Nat} {T : List Th} {g : Int → Option Nat} (i : Nat) (w : World) (h : RawAt F w p v b T m g) (hi : i < T.length) (hn : T.length ≤ 1000000) :
    Calls Try.prog 64 #[ptr13 p, .int .i64 (i : Int)] w fun e w' => ∃ c : Nat, e = .returned (.int .i64 (c : Int)) ∧ Under T i c ∧ Below w.heap.size w w' := by
  obtain ⟨gb, o, cap, rfl, hlc, _⟩ := h.own.th i hi
  have p0 := h.blk.cell 0 rfl
  have X1 : (i : Int) < (T.length : Int) := by omega
  have X2 : (0 : Int) ≤ (i : Int) := by omega
  have X5 : (T.length : Int) ≤ 1000000 := by omega
  by_cases hc : 2 * i + 2 < T.length
  · have C1 : (2 : Int) * (i : Int) + 2 < (T.length : Int) := by omega
    have C2 : decide ((2 : Int) * (i : Int) + 2 < (T.length : Int)) = true := by simp; omega
    have D1 : (2 : Int) * (i : Int) + 1 < (T.length : Int) := by omega
    have D2 : (0 : Int) ≤ (2 : Int) * (i : Int) + 1 := by omega
    have D3 : (0 : Int) ≤ (2 : Int) * (i : Int) + 2 := by omega
    obtain ⟨_, _, _, e, _, ⟨i0, i1, i2⟩, _⟩ := h.own.th (2 * i + 2) hc
    cases e
    obtain ⟨_, _, _, e, _, ⟨j0, j1, j2⟩, _⟩ := h.own.th (2 * i + 1) (by omega)
    cases e
    have GA := Lib.hid fun w1 => hAhead_any (tg T (2 * i + 2)) (tg T (2 * i + 1)) w1
    have N1 : ((2 : Int) * (i : Int) + 2).toNat = 2 * i + 2 := by omega
    have N2 : ((2 : Int) * (i : Int) + 1).toNat = 2 * i + 1 := by omega
    cases ha : ahead (tg T (2 * i + 2)) (tg T (2 * i + 1)) with
    | true =>
      have HU := Lib.hid (show Under T i (2 * i + 2) from ⟨.inr rfl, fun k k0 hk hp => by
        by_cases e : k = 2 * i + 2
        · rw [e]; exact ahead_irr _
        · have : k = 2 * i + 1 := by unfold par at hp; omega
          rw [this]; exact ahead_asym ha, fun h => by omega⟩)
      rw [ha] at GA
      generalize tg T (2 * i + 1) = t1 at *
      generalize tg T (2 * i + 2) = t2 at *
      clear ha h hc
      go_enter Try.func64, Try.ntmps64
      go_wp2
      refine wp_region_calm0 (by kernel_rfl) (by kernel_rfl) fun M => ?_
      have e0 := fun n : In M.w => n.cell (M.cell p0)
      have m0 := fun n : In M.w => n.cell (M.cell i0)
      have m1 := fun n : In M.w => n.cell (M.cell i1)
      have m2 := fun n : In M.w => n.cell (M.cell i2)
      have k0 := fun n : In M.w => n.cell (M.cell j0)
      have k1 := fun n : In M.w => n.cell (M.cell j1)
      have k2 := fun n : In M.w => n.cell (M.cell j2)
      repeat (go_big_quiet_step ((go_at_call 65; with_reducible exact In.call (GA.out _))))
      refine wpQuiet_nil ?_
      clear e0 m0 m1 m2 k0 k1 k2 M
      intro w1 hb
      go_wp2
      exact bodyPost_ret (v := .int .i64 (2 * (i : Int) + 2)) (by simp [results, Try.results64, go_sem]) rfl ⟨2 * i + 2, by congr 2, HU.out, hb⟩
    | false =>
      have HU := Lib.hid (show Under T i (2 * i + 1) from ⟨.inl rfl, fun k k0 hk hp => by
        by_cases e : k = 2 * i + 1
        · rw [e]; exact ahead_irr _
        · have : k = 2 * i + 2 := by unfold par at hp; omega
          rw [this]; exact ha, fun h => by omega⟩)
      rw [ha] at GA
      generalize tg T (2 * i + 1) = t1 at *
      generalize tg T (2 * i + 2) = t2 at *
      clear ha h hc
      go_enter Try.func64, Try.ntmps64
      go_wp2
      refine wp_region_calm0 (by kernel_rfl) (by kernel_rfl) fun M => ?_
      have e0 := fun n : In M.w => n.cell (M.cell p0)
      have m0 := fun n : In M.w => n.cell (M.cell i0)
      have m1 := fun n : In M.w => n.cell (M.cell i1)
      have m2 := fun n : In M.w => n.cell (M.cell i2)
      have k0 := fun n : In M.w => n.cell (M.cell j0)
      have k1 := fun n : In M.w => n.cell (M.cell j1)
      have k2 := fun n : In M.w => n.cell (M.cell j2)
      repeat (go_big_quiet_step ((go_at_call 65; with_reducible exact In.call (GA.out _))))
      refine wpQuiet_nil ?_
      clear e0 m0 m1 m2 k0 k1 k2 M
      intro w1 hb
      go_wp2
      exact bodyPost_ret (v := .int .i64 (2 * (i : Int) + 1)) (by simp [results, Try.results64, go_sem]) rfl ⟨2 * i + 1, by congr 2, HU.out, hb⟩
  · have C2 : decide ((2 : Int) * (i : Int) + 2 < (T.length : Int)) = false := by simp; omega
    have HU := Lib.hid (show Under T i (2 * i + 1) from ⟨.inl rfl, fun k k0 hk hp => by
        have : k = 2 * i + 1 := by unfold par at hp; omega
        rw [this]; exact ahead_irr _, fun h => h⟩)
    clear h hc
    go_enter Try.func64, Try.ntmps64
    go_wp2
    refine wp_region_calm0 (by kernel_rfl) (by kernel_rfl) fun M => ?_
    have e0 := fun n : In M.w => n.cell (M.cell p0)
    repeat (go_big_quiet_step (fail))
    refine wpQuiet_nil ?_
    clear e0 M
    intro w1 hb
    go_wp2
    exact bodyPost_ret (v := .int .i64 (2 * (i : Int) + 1)) (by simp [results, Try.results64, go_sem]) rfl ⟨2 * i + 1, by congr 2, HU.out, hb⟩
end Go.Proofs.Ytnfdhlkngjplkaa
