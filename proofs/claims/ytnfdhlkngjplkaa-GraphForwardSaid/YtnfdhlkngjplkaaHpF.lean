/- Stage 13's program: what is laid in a gap; New, Put. -/
import Derived.Test.YtnfdhlkngjplkaaHpE
import Derived.BigRegion
namespace Go.Proofs.Ytnfdhlkngjplkaa
open Go.RowKit

/-- the heap's memory, its places and ids -/
def HpAt (F : Nat → Prop) (w : World) (p : Nat) (v : Value) (b : Nat) (T : List Th) (g : Int → Option Nat) : Prop := RawAt F w p v b T T.length g ∧ Pos T g ∧ ∀ y ∈ T, I64 y.id
theorem GapAt.laid {F : Nat → Prop} {w : World} {p : Nat} {v : Value} {b : Nat} {T : List Th} {g : Int → Option Nat} {i : Nat} {x : Th} (h : GapAt F w p v b T g i x) (hn : T.length ≤ 1000000) :
    Calls Try.prog 62 #[ptr13 p, .int .i64 (i : Int), .agg #[.int .i64 x.id, .int .i64 x.key, .int .i64 x.seq]] w fun e w' => e = .returned (.tuple #[]) ∧ HpAt F w' p v b (T.set i x) (upd g x.id (some i)) ∧ Only F w w' := by
  obtain ⟨m, h1, h2, hi, h3, h4⟩ := h
  have hy : I64 x.id := by
    have := h4 ((T.set i x)[i]'(by rw [List.length_set]; exact hi)) (List.getElem_mem _)
    rwa [List.getElem_set_self] at this
  refine (hSet_any i x w h1 hi hn (by split at h2 <;> omega) hy).mono ?_
  rintro e w' ⟨rfl, h5, h6⟩
  rw [h2] at h5
  refine ⟨rfl, ⟨?_, h3, h4⟩, h6⟩
  rw [List.length_set]
  exact h5

set_option maxHeartbeats 4000000 in
set_option maxRecDepth 100000 in
theorem hFill_any {F : Nat → Prop} {p : Nat} {v : Value} {b : Nat} {T : List Th} {g : Int → Option Nat} (i : Nat) (x : Th) (w : World) (h : GapAt F w p v b T g i x) (hu : fixI (T.set i x) i) (hn : T.length ≤ 1000000) :
    Calls Try.prog 52 #[ptr13 p, .int .i64 (i : Int), .agg #[.int .i64 x.id, .int .i64 x.key, .int .i64 x.seq]] w fun e w' => e = .returned (.tuple #[]) ∧ ∃ T' g', HpAt F w' p v b T' g' ∧ hp T' ∧ T'.Perm (T.set i x) ∧ Only F w w' := by
  have hal := ((Below.refl w.heap.size w).alloc (Nat.le_refl _) (.cells #[.int .i64 x.id, .int .i64 x.key, .int .i64 x.seq] 77)).drew
  have hX := (Blk.new w [.int .i64 x.id, .int .i64 x.key, .int .i64 x.seq] 77).drew
  have hwa := Only.of_below (F := F) hal
  have hF : ¬ F w.heap.size := fun hf => by obtain ⟨m, h1⟩ := h.raw; have := h1.lt _ hf; omega
  have H0 := h.kept hal
  have hl0 : (T.set i x).length = T.length := List.length_set ..
  have UP := Lib.hid (hUp_any i x _ H0 hu hn)
  have HF := Lib.hid hF
  have HN := Lib.hid hn
  have HL0 := Lib.hid hl0
  have HWA := Lib.hid hwa
  have HXB := Lib.hid hX
  have x0 := hX.cell 0 rfl
  have x1 := hX.cell 1 rfl
  have x2 := hX.cell 2 rfl
  clear h hu hal hl0 hwa hX H0 hF
  go_enter Try.func52, Try.ntmps52
  go_wp2
  go_region_with (first
    | (go_at_call 61; (with_reducible refine UP.out.mono ?_); rintro e w1 ⟨j, rfl, T1, g1, hG1, hD1, hP1, hl1, hO1⟩; have HX1 := Lib.hid (HXB.out.same (hO1.block _ HXB.out.lt HF.out)); have y0 := HX1.out.cell 0 rfl; have y1 := HX1.out.cell 1 rfl; have y2 := HX1.out.cell 2 rfl; have DN := Lib.hid (hDown_any j x w1 hG1 hD1 (by have := HN.out; have := HL0.out; omega)); have HP1 := Lib.hid hP1; have HL1 := Lib.hid hl1; have HO1 := Lib.hid (HWA.out.trans hO1); clear hG1 hD1 hP1 hl1 hO1)
    | (go_at_call 60; (with_reducible refine DN.out.mono ?_); rintro e w2 ⟨k, rfl, T2, g2, hG2, hD2, hP2, hl2, hO2⟩; have ST := Lib.hid (hG2.laid (by have := HN.out; have := HL0.out; have := HL1.out; rw [List.length_set] at hl2; omega)); have HX2 := HX1.out.same (hO2.block _ HX1.out.lt HF.out); have z0 := HX2.cell 0 rfl; have z1 := HX2.cell 1 rfl; have z2 := HX2.cell 2 rfl; clear HX2; have HD2 := Lib.hid (show hp (T2.set k x) from hD2); have HP2 := Lib.hid (hP2.trans HP1.out); have HO2 := Lib.hid (HO1.out.trans hO2); clear hG2 hD2 hP2 hl2 hO2))
  all_goals (
    go_wp2_with (go_at_call 62; (with_reducible refine ST.out.mono ?_); rintro e w3 ⟨rfl, h3, h4⟩)
    go_end0
    exact ⟨rfl, _, _, h3, HD2.out, HP2.out, HO2.out.trans h4⟩)
end Go.Proofs.Ytnfdhlkngjplkaa
