/- What must come at any rate. -/
import Derived.Test.YthndmoipemnllaaFenceBase
import Derived.Deep.DeepCutAuto
namespace Go.Proofs.Ythndmoipemnllaa
open Go.RowKit

theorem alive_right : rightB [(0, 0), (3, 0), (3, 2), (0, 2)] = true := by decide +kernel
theorem alive_area : fen [(0, 0), (3, 0), (3, 2), (0, 2)] = 6 := by decide +kernel
theorem alive_in : fcell [(0, 0), (3, 0), (3, 2), (0, 2)] (2, 1) = 1 := by decide +kernel
theorem alive_out : fcell [(0, 0), (3, 0), (3, 2), (0, 2)] (3, 1) = 0 := by decide +kernel
theorem alive_cut : rightB [(0, 0), (3, 0), (3, 2)] = false := by decide +kernel
/-- the front of a list -/
theorem PairsAt.front {w : World} {a : Option Addr} {n cap : Nat} {l : List (Int × Int)} (h : PairsAt w (.slice a n cap) l) (k : Nat) (hk : k ≤ l.length) : PairsAt w (.slice a k cap) (l.take k) := by
  obtain ⟨a', c', e, hc, hx⟩ := h
  cases e
  refine ⟨a, cap, by rw [List.length_take, Nat.min_eq_left hk], by rw [List.length_take, Nat.min_eq_left hk]; omega, fun h0 => ?_⟩
  rw [List.length_take, Nat.min_eq_left hk] at h0
  obtain ⟨g, o, e, hg, hxa⟩ := hx (by omega)
  refine ⟨g, o, e, hg, fun j x hj => hxa j x ?_⟩
  rw [List.getElem?_take] at hj
  split at hj
  · exact hj
  · cases hj

set_option maxHeartbeats 1000000 in
set_option maxRecDepth 100000 in
theorem fAlive_any (w : World) : Calls Try.prog 7 #[] w fun e w' => e = .returned (.bool true) ∧ Below w.heap.size w w' := by
  have hg := fun w => fRing_any 0 0 3 2 w
  have h1 := fun w va ha => fRight_any va [(0, 0), (3, 0), (3, 2), (0, 2)] w ha (by decide)
  have h2 := fun w va ha => fArea_any va [(0, 0), (3, 0), (3, 2), (0, 2)] w ha (by decide)
  have h3 := fun w va ha => fCell_any va [(0, 0), (3, 0), (3, 2), (0, 2)] 2 1 w ha (by decide) (by decide) (by decide)
  have h4 := fun w va ha => fCell_any va [(0, 0), (3, 0), (3, 2), (0, 2)] 3 1 w ha (by decide) (by decide) (by decide)
  have h5 := fun w va ha => fRight_any va [(0, 0), (3, 0), (3, 2)] w ha (by decide)
  rw [alive_right] at h1
  rw [alive_area] at h2
  rw [alive_in] at h3
  rw [alive_out] at h4
  rw [alive_cut] at h5
  have HG := Lib.hid hg
  have H1 := Lib.hid h1
  have H2 := Lib.hid h2
  have H3 := Lib.hid h3
  have H4 := Lib.hid h4
  have H5 := Lib.hid h5
  clear hg h1 h2 h3 h4 h5
  have hB := Below.refl w.heap.size w
  go_enter Try.func7, Try.ntmps7
  go_upto_region 2 with (go_at_call 15; refine (HG.out _).mono ?_; rintro e w1 ⟨v1, rfl, hv, hb⟩)
  obtain ⟨a1, c1, ev, hc1, hx1⟩ := hv
  cases ev
  have hc3 : 3 ≤ c1 := Nat.le_trans (by decide : 3 ≤ 4) hc1
  have hv' : PairsAt w1 (.slice a1 4 c1) [(0, 0), (3, 0), (3, 2), (0, 2)] := ⟨a1, c1, rfl, hc1, hx1⟩
  have hv := Lib.hid hv'
  replace hB := hB.trans (hb.mono hB.size)
  clear hb hx1 hv' hc1
  go_wp2_with (first
    | (go_at_call 10; with_reducible refine (H1.out _ _ hv.out).mono ?_; rintro e w2 ⟨rfl, hb⟩; replace hB := hB.trans (hb.mono hB.size); have hv2 := Lib.hid (hv.out.kept hb); clear hb hv)
    | (go_at_call 17; with_reducible refine (H2.out _ _ hv2.out).mono ?_; rintro e w3 ⟨rfl, hb⟩; replace hB := hB.trans (hb.mono hB.size); have hv3 := Lib.hid (hv2.out.kept hb); clear hb hv2)
    | (go_at_call 19; with_reducible refine (H3.out _ _ hv3.out).mono ?_; rintro e w4 ⟨rfl, hb⟩; replace hB := hB.trans (hb.mono hB.size); have hv4 := Lib.hid (hv3.out.kept hb); clear hb hv3)
    | (go_at_call 19; with_reducible refine (H4.out _ _ hv4.out).mono ?_; rintro e w5 ⟨rfl, hb⟩; replace hB := hB.trans (hb.mono hB.size); have hv5 := Lib.hid ((hv4.out.kept hb).front 3 (by decide)); clear hb hv4)
    | (go_at_call 10; refine (H5.out _ _ hv5.out).mono ?_; rintro e w6 ⟨rfl, hb⟩; replace hB := hB.trans (hb.mono hB.size); clear hb hv5))
  go_ret
  exact ⟨rfl, hB⟩
end Go.Proofs.Ythndmoipemnllaa
