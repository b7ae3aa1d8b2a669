/- What the statements' list of variables gives: the two tables. -/
import Derived.Test.YtfalohmdjnhikaaDoorSkillA
import Derived.Lib.LaidTab
namespace Go.Proofs.YtfalohmdjnhikaaDoor
open Go.RowKit

theorem laidMet_tail {P : Program} {x : String × DataW Unit} {rest : List (String × DataW Unit)} {w : World} (h : laidMet P (x :: rest) w) : laidMet P rest w := by
  obtain ⟨ps, ⟨g, t, cs, fuel, p, q, _, _, _, _, hr, rfl⟩, hn, hc⟩ := h
  exact ⟨q, hr, (List.nodup_append.1 hn).2.1, fun b off hm => hc b off (List.mem_append.2 (.inr hm))⟩
def brI : List Int := [0, 1, 56, 2, 57, 49, 28, 3, 61, 58, 42, 50, 38, 29, 17, 4, 62, 47, 59, 36, 45, 43, 51, 22, 53, 39, 33, 30, 24, 18, 12, 5, 63, 55, 48, 27, 60, 41, 37, 16, 46, 35, 44, 21, 52, 32, 23, 11, 54, 26, 40, 15, 34, 20, 31, 10, 25, 14, 19, 9, 13, 8, 7, 6]
def sgI : List Int := [97, 98, 99, 100, 101, 102, 103, 104, 105, 106, 107, 108, 109, 110, 111, 112, 113, 114, 115, 116, 117, 118, 119, 120, 121, 122, 65, 66, 67, 68, 69, 70, 71, 72, 73, 74, 75, 76, 77, 78, 79, 80, 81, 82, 83, 84, 85, 86, 87, 88, 89, 90, 48, 49, 50, 51, 52, 53, 54, 55, 56, 57, 43, 47]
theorem brI_at : ∀ j, j < 64 → brI.getD j 0 = ((Lib.deBruijn64tab.getD j 0 : Nat) : Int) := by decide +kernel
theorem sgI_at : ∀ j, j < 64 → sgI.getD j 0 = ((sg j).toNat : Int) := by decide +kernel
theorem gSgn : Tryd.prog.globalNamed "tallyman/skill.signs" = some 0 := by kernel_rfl
theorem gBr : Tryd.prog.globalNamed "math/bits.deBruijn64tab" = some 1 := by kernel_rfl
theorem tSgn : (Tryd.prog.globals[0]?).map (·.type) = some 41 := by kernel_rfl
theorem tBr : (Tryd.prog.globals[1]?).map (·.type) = some 41 := by kernel_rfl
theorem cells64 : Tryd.prog.cellsOf 41 = 64 := by kernel_rfl
theorem cellsU8 : Tryd.prog.cellsOf 5 = 1 := by kernel_rfl
theorem tabs_of_laid {W : World} (h : laidMet Tryd.prog [("math/bits.deBruijn64tab", Rows.laid_math_bits_deBruijn64tab), ("tallyman/skill.signs", Rows.laid_tallyman_skill_signs)] W) : Tabs W := by
  have h1 : Lib.TabIs Tryd.prog W "math/bits.deBruijn64tab" .u8 brI := Lib.tabIs_of_head gBr tBr Tryd.underlying41 Tryd.underlying5 cellsU8 cells64 h
  have h2 : Lib.TabIs Tryd.prog W "tallyman/skill.signs" .u8 sgI := Lib.tabIs_of_head gSgn tSgn Tryd.underlying41 Tryd.underlying5 cellsU8 cells64 (laidMet_tail h)
  refine ⟨fun n hn => ?_, fun j hj => ?_⟩
  · rw [h2.cell gSgn n hn, sgI_at n hn]
  · rw [h1.cell gBr j hj, brI_at j hj]
end Go.Proofs.YtfalohmdjnhikaaDoor
