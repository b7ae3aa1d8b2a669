/- What must come at any rate. -/
import Derived.Test.YtibeljppjaenbaaWalkC
import Derived.Test.YtibeljppjaenbaaWalkD
import Derived.Test.YtibeljppjaenbaaWalkE
import Derived.Test.YtibeljppjaenbaaWalkG
namespace Go.Proofs.Ytibeljppjaenbaa
open Go.RowKit

theorem alive_parse : wrun none (⟨#[70, 50, 76, 70, 51]⟩ : ByteArray).data.toList 0 [] = ([(1, 2), (3, 1), (1, 3)], 0, 0) := by decide +kernel
theorem alive_short : srt [(1, 2), (3, 4), (1, 3)] = ([(1, 5)], 0) := by decide +kernel
theorem alive_end : eend [(1, 2), (3, 1), (1, 3)] = (1, 2, 3) := by decide +kernel
theorem alive_text : bz (wtx [(1, 5)]) = ⟨#[70, 53]⟩ := by decide +kernel
theorem lit3 (w : World) (e : TypeId) (a b c d f g : Int) : PairsAt (w.alloc (.cells #[.int .i64 a, .int .i64 b, .int .i64 c, .int .i64 d, .int .i64 f, .int .i64 g] e)) (.slice (some ⟨w.heap.size, 0, none⟩) 3 3) [(a, b), (c, d), (f, g)] := by
  have o : OwnP (w.alloc (.cells #[.int .i64 a, .int .i64 b, .int .i64 c, .int .i64 d, .int .i64 f, .int .i64 g] e)) w.heap.size e (.slice (some ⟨w.heap.size, 0, none⟩) 3 3) [(a, b), (c, d), (f, g)] :=
    ⟨rfl, .inr ⟨w.heap.size, 3, #[.int .i64 a, .int .i64 b, .int .i64 c, .int .i64 d, .int .i64 f, .int .i64 g], rfl, Nat.le_refl _, heap_alloc_new w _, Nat.le_refl _, by decide, rfl, rfl⟩⟩
  exact o.pairs

set_option maxHeartbeats 1000000 in
set_option maxRecDepth 100000 in
theorem walkAlive_any (w : World) : Calls Try.prog 8 #[] w fun e w' => e = .returned (.bool true) ∧ Below w.heap.size w w' := by
  have hp := wParse_any ⟨#[70, 50, 76, 70, 51]⟩ w (by decide) _ alive_parse
  have hs := fun w va ha => wShort_any va [(1, 2), (3, 4), (1, 3)] w ha (by decide)
  have he := fun w va ha => wEnd_any va [(1, 2), (3, 1), (1, 3)] w ha (by decide)
  have ht := fun w va ha => wText_any va [(1, 5)] w ha (by decide)
  rw [alive_short] at hs
  rw [alive_end] at he
  rw [alive_text] at ht
  simp only at hp hs he
  have HP := Lib.hid hp
  have HS := Lib.hid hs
  have HE := Lib.hid he
  have HT := Lib.hid ht
  clear hp hs he ht
  have hB := Below.refl w.heap.size w
  go_enter Try.func8, Try.ntmps8
  go_wp2_with (first
    | (go_at_call 9; refine HP.out.mono ?_; rintro e w1 ⟨v1, rfl, hv, hb⟩; replace hB := hB.trans (hb.mono hB.size); have hV := Lib.hid (hv.kept ((Below.refl _ w1).alloc (Nat.le_refl _) (.cells #[.int .i64 1, .int .i64 2, .int .i64 3, .int .i64 4, .int .i64 1, .int .i64 3] 48))); replace hB := hB.alloc hB.size (.cells #[.int .i64 1, .int .i64 2, .int .i64 3, .int .i64 4, .int .i64 1, .int .i64 3] 48); clear hb hv)
    | (go_at_call 19; refine (HS.out _ _ (lit3 _ _ _ _ _ _ _ _)).mono ?_; rintro e w2 ⟨v2, rfl, hs, hb⟩; replace hB := hB.trans (hb.mono hB.size); have hV2 := Lib.hid (hV.out.kept hb); have hS := Lib.hid hs; clear hb hs)
    | (go_at_call 16; refine (HE.out _ _ hV2.out).mono ?_; rintro e w3 ⟨rfl, hb⟩; replace hB := hB.trans (hb.mono hB.size); have hS3 := Lib.hid (hS.out.kept hb); clear hb)
    | (go_at_call 11; refine (HT.out _ _ hS3.out).mono ?_; rintro e w4 ⟨rfl, hb⟩; replace hB := hB.trans (hb.mono hB.size); clear hb))
  go_ret
  exact ⟨rfl, hB⟩
end Go.Proofs.Ytibeljppjaenbaa
