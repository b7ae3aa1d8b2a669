/- Texts of this proof, joined: PlanE; PlanF; PlanG; Shelf; PlanH; SortI. -/
import Derived.Test.YtmkepmjdckdpgaaBun11
import Derived.Shelf.Small.Bits
import Derived.Shelf.Small.Wraps
import Derived.Shelf.Strconv.Itoa0
import Derived.Shelf.Sort.Plain
import Derived.Shelf.Slices.Equal
import Derived.Ground.Names2Prog
import Derived.Shelf.Slices.Clone
import Derived.Shelf.Slices.CompactI
import Derived.Shelf.Slices.SearchI
import Derived.Shelf.Slices.Cells
import Derived.Shelf.Slices.In.SortNone
import Derived.Shelf.Slices.Empties2
import Derived.Test.YtmkepmjdckdpgaaProg
/- The walks of package plan: the way. -/
namespace Go.Proofs.Ytmkepmjdckdpgaa
open Go.RowKit

/-! ### The way is two straight ones -/
theorem rway_ne (a b : Int × Int) (how : Int) : rway a b how = a :: (rway a b how).tail := by
  by_cases h : a = b
  · subst h; rw [rway_self]; rfl
  · rw [rway_cons how h]; rfl
theorem trn_self (how : Int) (b : Int × Int) : trn how b b = b := by unfold trn; split <;> rfl
theorem rst_trn {a b : Int × Int} {how : Int} (h : a ≠ trn how a b) : rst b how a = rst (trn how a b) how a ∧ trn how (rst b how a) b = trn how a b ∧ a ≠ b := by
  obtain ⟨a1, a2⟩ := a
  obtain ⟨b1, b2⟩ := b
  unfold trn at *
  by_cases hh : how = 1
  · subst hh
    simp only [if_pos] at *
    have h1 : a2 ≠ b2 := fun e => h (by rw [e])
    unfold rst
    simp [h1]
  · simp only [if_neg hh] at *
    have h1 : a1 ≠ b1 := fun e => h (by rw [e])
    unfold rst
    simp [h1, hh]
theorem rway_split (how : Int) (b : Int × Int) : ∀ n a, gap a (trn how a b) = n → rway a b how = rway a (trn how a b) how ++ (rway (trn how a b) b how).tail := by
  intro n
  induction n with
  | zero =>
    intro a h
    have e := gap_zero h
    rw [← e, rway_self, List.cons_append, List.nil_append]
    exact rway_ne _ _ _
  | succ n ih =>
    intro a h
    have hne : a ≠ trn how a b := fun e => by rw [← e] at h; unfold gap at h; omega
    obtain ⟨h1, h2, h3⟩ := rst_trn hne
    have hg := rst_gap how hne
    rw [rway_cons how h3, rway_cons how hne, ← h1]
    have := ih (rst b how a) (by rw [h2, h1]; omega)
    rw [h2] at this
    rw [this, List.cons_append]
/-- a straight way -/
def strt (a b : Int × Int) : Prop := a.1 = b.1 ∨ a.2 = b.2
theorem sgn_zero : sgn 0 = 0 := rfl
theorem tw_sgn (a b : Int) : tw a b = a + sgn (b - a) := by
  unfold tw sgn
  split <;> (try split) <;> (try split) <;> omega
theorem sgn_keep {a b : Int} (h : a + sgn (b - a) ≠ b) : sgn (b - (a + sgn (b - a))) = sgn (b - a) := by
  rcases Int.lt_trichotomy (b - a) 0 with h1 | h1 | h1
  · have hs : sgn (b - a) = -1 := if_pos h1
    rw [hs] at h ⊢
    exact if_pos (by omega)
  · have hs : sgn (b - a) = 0 := by rw [h1]; rfl
    rw [hs] at h ⊢
    omega
  · have hs : sgn (b - a) = 1 := by unfold sgn; rw [if_neg (by omega), if_pos h1]
    rw [hs] at h ⊢
    unfold sgn
    rw [if_neg (by omega), if_pos (by omega)]
theorem rst_strt {a b : Int × Int} (how : Int) (h : strt a b) (hne : a ≠ b) : rst b how a = (a.1 + sgn (b.1 - a.1), a.2 + sgn (b.2 - a.2)) ∧ strt (rst b how a) b ∧
    (rst b how a ≠ b → sgn (b.1 - (rst b how a).1) = sgn (b.1 - a.1) ∧ sgn (b.2 - (rst b how a).2) = sgn (b.2 - a.2)) := by
  obtain ⟨a1, a2⟩ := a
  obtain ⟨b1, b2⟩ := b
  have hr : rst (b1, b2) how (a1, a2) = (a1 + sgn (b1 - a1), a2 + sgn (b2 - a2)) := by
    unfold strt at h
    simp only at h
    rcases h with rfl | rfl
    · have h2 : a2 ≠ b2 := fun e => hne (by rw [e])
      unfold rst
      rw [if_neg (by simp [h2]), Int.sub_self, sgn_zero, Int.add_zero, tw_sgn]
    · unfold rst
      rw [if_pos (.inl rfl), Int.sub_self, sgn_zero, Int.add_zero, tw_sgn]
  rw [hr]
  refine ⟨rfl, ?_, fun hn => ?_⟩
  · unfold strt at *
    simp only at *
    rcases h with rfl | rfl
    · left; rw [Int.sub_self, sgn_zero, Int.add_zero]
    · right; rw [Int.sub_self, sgn_zero, Int.add_zero]
  · unfold strt at h
    simp only at *
    rcases h with rfl | rfl
    · have e : a1 + sgn (a1 - a1) = a1 := by rw [Int.sub_self, sgn_zero, Int.add_zero]
      rw [e]
      exact ⟨rfl, sgn_keep fun h => hn (by rw [e, h])⟩
    · have e : a2 + sgn (a2 - a2) = a2 := by rw [Int.sub_self, sgn_zero, Int.add_zero]
      rw [e]
      exact ⟨sgn_keep fun h => hn (by rw [e, h]), rfl⟩
theorem sgn_abs (x : Int) : (sgn x).natAbs ≤ 1 := by unfold sgn; split <;> (try split) <;> omega
theorem wdb {x : Int} (h : -1000 ≤ x ∧ x ≤ 1000) : x.natAbs ≤ 1000 := by omega

/-! ### What is gathered -/
/-- the way in its box -/
def RBox (w : World) (r B : Nat) (L : List (Int × Int)) : Prop := ∃ v, w.heap[r]? = some (.cells #[v] 46) ∧ OwnP w B 24 v L
theorem own_ne {w : World} {r B : Nat} {v u : Value} {L : List (Int × Int)} (hr : w.heap[r]? = some (.cells #[u] 46)) (h : OwnP w B 24 v L) : v.ownBlock ≠ some r := by
  rcases h.2 with ⟨rfl, _⟩ | ⟨g, cap, cur, rfl, _, hh, _⟩
  · simp [Value.ownBlock]
  · intro e
    simp [Value.ownBlock] at e
    subst e
    rw [hr] at hh
    cases hh
theorem RBox.kept {w w1 : World} {r B : Nat} {L : List (Int × Int)} (h : RBox w r B L) (hb : Below w.heap.size w w1) : RBox w1 r B L := by
  obtain ⟨v, h1, h2⟩ := h
  exact ⟨v, (hb.block r (Array.getElem?_eq_some_iff.1 h1).1).trans h1, h2.kept hb⟩
theorem hset1c {w : World} {b : Nat} {x : Value} {t : TypeId} (h : w.heap[b]? = some (.cells #[x] t)) (x' : Value) : (w.setCell ⟨b, 0, none⟩ x').heap[b]? = some (.cells #[x'] t) := by
  unfold World.setCell
  simp only [Array.getElem?_modify, if_pos, h, Option.map_some]
  rfl

end Go.Proofs.Ytmkepmjdckdpgaa
/- The walks of package plan: each step of a straight way; the whole way. -/
namespace Go.Proofs.Ytmkepmjdckdpgaa
open Go.RowKit

end Go.Proofs.Ytmkepmjdckdpgaa
/- The walks of package plan: the way, by two straight ones. -/
namespace Go.Proofs.Ytmkepmjdckdpgaa
open Go.RowKit

theorem corner_is (a1 a2 b1 b2 how : Int) (ha : (-1000 ≤ a1 ∧ a1 ≤ 1000) ∧ -1000 ≤ a2 ∧ a2 ≤ 1000) (hb : (-1000 ≤ b1 ∧ b1 ≤ 1000) ∧ -1000 ≤ b2 ∧ b2 ≤ 1000) :
    ∃ (C1 C2 : Nat) (c1 c2 : Int), trn how (a1, a2) (b1, b2) = (c1, c2) ∧ Fl C1 c1 ∧ Fl C2 c2 ∧ ((-1000 ≤ c1 ∧ c1 ≤ 1000) ∧ -1000 ≤ c2 ∧ c2 ≤ 1000) ∧ strt (a1, a2) (c1, c2) ∧ strt (c1, c2) (b1, b2) ∧
      ∀ w, Calls Try.prog 52 #[.complex .f64 (fl a1) (fl a2), .complex .f64 (fl b1) (fl b2), .int .i64 how] w fun e w' => e = .returned (.complex .f64 C1 C2) ∧ w = w' := by
  have hbt := fun w => pbetween_any (fl a1) (fl a2) (fl b1) (fl b2) how w
  by_cases h : how = 1
  · simp only [if_pos h] at hbt
    exact ⟨fl a1, fl b2, a1, b2, by unfold trn; rw [if_pos h], fl_small (by omega), fl_small (by omega), by omega, .inl rfl, .inr rfl, hbt⟩
  · simp only [if_neg h] at hbt
    exact ⟨fl b1, fl a2, b1, a2, by unfold trn; rw [if_neg h], fl_small (by omega), fl_small (by omega), by omega, .inr rfl, .inl rfl, hbt⟩

theorem ownp_one (w : World) (x y : Int) : OwnP (w.alloc (.cells #[.int .i64 x, .int .i64 y] 24)) w.heap.size 24 (.slice (some ⟨w.heap.size, 0, none⟩) 1 1) [(x, y)] :=
  ⟨rfl, .inr ⟨w.heap.size, 1, _, rfl, Nat.le_refl _, Array.getElem?_push_size, by simp, by simp [maxLen], rfl, rfl⟩⟩

end Go.Proofs.Ytmkepmjdckdpgaa
/-
  DERIVED: THE SHELF's CONTRACTS AT THIS DUMP, IN PLAIN WORDS (tools/lay-plain.mjs out of 'TryShelf.lean', which tools/lay-shelf.mjs wrote): THE SAME DECLARATIONS UNDER THE SAME NAMES: 'import', 'namespace', 'open', 'def', 'theorem' AND NOTHING ELSE: no command of the shelf's: FOR A HAND-IN. Each laying: the table of numbers ('.._ren') and one theorem, a field a fact of the dump's own or the kernel's comparison; each contract: ONE APPLICATION.
-/
namespace Go.Proofs
open Go.Shelf
def Try.lays128_ren : Go.Shelf.Ren := ⟨fun | 128 => 82 | n => n, fun | 51 => 106 | 3 => 3 | 4 => 4 | 46 => 91 | 5 => 5 | 9 => 9 | n => n, fun | n => n⟩
theorem Try.lays128 : Go.Proofs.Lays.n128 Try.prog Try.lays128_ren := {
  mixed := by kernel_rfl
  f128 := Try.func82.trans (congrArg some (by kernel_rfl))
  t3 := Try.underlying3
  a3 := Try.isAgg3
  z3 := Try.sizeOf3
  v3 := Try.zeroValue3
  t4 := Try.underlying4
  a4 := Try.isAgg4
  z4 := Try.sizeOf4
  v4 := Try.zeroValue4
  t5 := Try.underlying5
  a5 := Try.isAgg5
  z5 := Try.sizeOf5
  v5 := Try.zeroValue5
  t9 := Try.underlying9
  a9 := Try.isAgg9
  z9 := Try.sizeOf9
  v9 := Try.zeroValue9
  t46 := Try.underlying91
  a46 := Try.isAgg91
  z46 := Try.sizeOf91
  v46 := Try.zeroValue91
  t51 := Try.underlying106
  a51 := Try.isAgg106
  z51 := Try.sizeOf106
  v51 := Try.zeroValue106 }
/-- bits.Len32: "Len32 returns the minimum number of bits required to represent x; the result is 0 for x == 0.": IT RETURNS 'Lib.bitLen x'; the world is as it was. ('h0', 'h1': x is a uint32.) (LAID: no walk: one application.) -/
theorem Try.bits_Len32 (x : Int) (w : World) (h0 : 0 ≤ x) (h1 : x ≤ 4294967295) :
    Calls Try.prog 82 #[.int .u32 x] w fun e w' => e = .returned (.int .i64 (Lib.bitLen x.toNat)) ∧ w' = w := Any.bits_Len32 Try.lays128 x w h0 h1
def Try.lays125_ren : Go.Shelf.Ren := ⟨fun | 125 => 67 | 128 => 82 | 129 => 83 | n => n, fun | 46 => 91 | 3 => 3 | 51 => 106 | 53 => 22 | 4 => 4 | 5 => 5 | 9 => 9 | n => n, fun | n => n⟩
theorem Try.lays125 : Go.Proofs.Lays.n125 Try.prog Try.lays125_ren := {
  mixed := by kernel_rfl
  f125 := Try.func67.trans (congrArg some (by kernel_rfl))
  f128 := Try.func82.trans (congrArg some (by kernel_rfl))
  f129 := Try.func83.trans (congrArg some (by kernel_rfl))
  t3 := Try.underlying3
  a3 := Try.isAgg3
  z3 := Try.sizeOf3
  v3 := Try.zeroValue3
  t4 := Try.underlying4
  a4 := Try.isAgg4
  z4 := Try.sizeOf4
  v4 := Try.zeroValue4
  t5 := Try.underlying5
  a5 := Try.isAgg5
  z5 := Try.sizeOf5
  v5 := Try.zeroValue5
  t9 := Try.underlying9
  a9 := Try.isAgg9
  z9 := Try.sizeOf9
  v9 := Try.zeroValue9
  t46 := Try.underlying91
  a46 := Try.isAgg91
  z46 := Try.sizeOf91
  v46 := Try.zeroValue91
  t51 := Try.underlying106
  a51 := Try.isAgg106
  z51 := Try.sizeOf106
  v51 := Try.zeroValue106
  t53 := Try.underlying22
  a53 := Try.isAgg22
  z53 := Try.sizeOf22
  v53 := Try.zeroValue22 }
/-- bits.Len: "Len returns the minimum number of bits required to represent x; the result is 0 for x == 0.": IT RETURNS 'Lib.bitLen x'; the world is as it was. (A uint has 64 bits in the model.) ITS CALLEE bits.Len64 IS MET BY ITS OWN CONTRACT OFF THE SHELF (lay that first). (LAID: no walk: one application.) -/
theorem Try.bits_Len (x : Int) (w : World) (h0 : 0 ≤ x) (h1 : x ≤ 18446744073709551615) :
    Calls Try.prog 67 #[.int .u64 x] w fun e w' => e = .returned (.int .i64 (Lib.bitLen x.toNat)) ∧ w' = w := Any.bits_Len Try.lays125 x w h0 h1
def Try.lays215_ren : Go.Shelf.Ren := ⟨fun | 215 => 92 | n => n, fun | 3 => 3 | 4 => 4 | n => n, fun | n => n⟩
theorem Try.lays215 : Go.Proofs.Lays.n215 Try.prog Try.lays215_ren := {
  mixed := by kernel_rfl
  f215 := Try.func92.trans (congrArg some (by kernel_rfl))
  t3 := Try.underlying3
  a3 := Try.isAgg3
  z3 := Try.sizeOf3
  v3 := Try.zeroValue3
  t4 := Try.underlying4
  a4 := Try.isAgg4
  z4 := Try.sizeOf4
  v4 := Try.zeroValue4 }
open Go.RowKit in
/-- cmp.isNaN at int: 'x != x': false. (LAID: no walk: one application.) -/
theorem Try.cmp_isNaN_int (x : Int) (w : World) :
    Calls Try.prog 92 #[.int .i64 x] w fun e w' => e = .returned (.bool false) ∧ w' = w := Any.cmp_isNaN_int Try.lays215 x w
def Try.lays129_ren : Go.Shelf.Ren := ⟨fun | 129 => 83 | n => n, fun | 53 => 22 | 3 => 3 | 4 => 4 | 46 => 91 | 5 => 5 | 9 => 9 | n => n, fun | n => n⟩
theorem Try.lays129 : Go.Proofs.Lays.n129 Try.prog Try.lays129_ren := {
  mixed := by kernel_rfl
  f129 := Try.func83.trans (congrArg some (by kernel_rfl))
  t3 := Try.underlying3
  a3 := Try.isAgg3
  z3 := Try.sizeOf3
  v3 := Try.zeroValue3
  t4 := Try.underlying4
  a4 := Try.isAgg4
  z4 := Try.sizeOf4
  v4 := Try.zeroValue4
  t5 := Try.underlying5
  a5 := Try.isAgg5
  z5 := Try.sizeOf5
  v5 := Try.zeroValue5
  t9 := Try.underlying9
  a9 := Try.isAgg9
  z9 := Try.sizeOf9
  v9 := Try.zeroValue9
  t46 := Try.underlying91
  a46 := Try.isAgg91
  z46 := Try.sizeOf91
  v46 := Try.zeroValue91
  t53 := Try.underlying22
  a53 := Try.isAgg22
  z53 := Try.sizeOf22
  v53 := Try.zeroValue22 }
/-- bits.Len64: "Len64 returns the minimum number of bits required to represent x; the result is 0 for x == 0.": IT RETURNS 'Lib.bitLen x'; the world is as it was. ('h0', 'h1': x is a uint64.) (LAID: no walk: one application.) -/
theorem Try.bits_Len64 (x : Int) (w : World) (h0 : 0 ≤ x) (h1 : x ≤ 18446744073709551615) :
    Calls Try.prog 83 #[.int .u64 x] w fun e w' => e = .returned (.int .i64 (Lib.bitLen x.toNat)) ∧ w' = w := Any.bits_Len64 Try.lays129 x w h0 h1
def Try.lays189_ren : Go.Shelf.Ren := ⟨fun | 189 => 54 | 125 => 67 | 257 => 66 | 128 => 82 | 129 => 83 | 294 => 73 | 295 => 74 | 296 => 75 | 297 => 76 | 298 => 77 | 299 => 78 | 216 => 79 | 300 => 80 | 301 => 81 | 328 => 87 | 329 => 88 | 330 => 89 | 331 => 90 | 332 => 91 | 215 => 92 | 343 => 96 | n => n, fun | 28 => 25 | 3 => 3 | 46 => 91 | 0 => 0 | 51 => 106 | 53 => 22 | 4 => 4 | 183 => 99 | 182 => 98 | 131 => 47 | 5 => 5 | 9 => 9 | 218 => 109 | 222 => 113 | 228 => 118 | 229 => 119 | n => n, fun | n => n⟩
theorem Try.lays189 : Go.Proofs.Lays.n189 Try.prog Try.lays189_ren := {
  mixed := by kernel_rfl
  f125 := Try.func67.trans (congrArg some (by kernel_rfl))
  f128 := Try.func82.trans (congrArg some (by kernel_rfl))
  f129 := Try.func83.trans (congrArg some (by kernel_rfl))
  f189 := Try.func54.trans (congrArg some (by kernel_rfl))
  f215 := Try.func92.trans (congrArg some (by kernel_rfl))
  f216 := Try.func79.trans (congrArg some (by kernel_rfl))
  f257 := Try.func66.trans (congrArg some (by kernel_rfl))
  f294 := Try.func73.trans (congrArg some (by kernel_rfl))
  f295 := Try.func74.trans (congrArg some (by kernel_rfl))
  f296 := Try.func75.trans (congrArg some (by kernel_rfl))
  f297 := Try.func76.trans (congrArg some (by kernel_rfl))
  f298 := Try.func77.trans (congrArg some (by kernel_rfl))
  f299 := Try.func78.trans (congrArg some (by kernel_rfl))
  f300 := Try.func80.trans (congrArg some (by kernel_rfl))
  f301 := Try.func81.trans (congrArg some (by kernel_rfl))
  f328 := Try.func87.trans (congrArg some (by kernel_rfl))
  f329 := Try.func88.trans (congrArg some (by kernel_rfl))
  f330 := Try.func89.trans (congrArg some (by kernel_rfl))
  f331 := Try.func90.trans (congrArg some (by kernel_rfl))
  f332 := Try.func91.trans (congrArg some (by kernel_rfl))
  f343 := Try.func96.trans (congrArg some (by kernel_rfl))
  t0 := Try.underlying0
  a0 := Try.isAgg0
  z0 := Try.sizeOf0
  v0 := Try.zeroValue0
  t3 := Try.underlying3
  a3 := Try.isAgg3
  z3 := Try.sizeOf3
  v3 := Try.zeroValue3
  t4 := Try.underlying4
  a4 := Try.isAgg4
  z4 := Try.sizeOf4
  v4 := Try.zeroValue4
  t5 := Try.underlying5
  a5 := Try.isAgg5
  z5 := Try.sizeOf5
  v5 := Try.zeroValue5
  t9 := Try.underlying9
  a9 := Try.isAgg9
  z9 := Try.sizeOf9
  v9 := Try.zeroValue9
  t28 := Try.underlying25
  a28 := Try.isAgg25
  z28 := Try.sizeOf25
  v28 := Try.zeroValue25
  t46 := Try.underlying91
  a46 := Try.isAgg91
  z46 := Try.sizeOf91
  v46 := Try.zeroValue91
  t51 := Try.underlying106
  a51 := Try.isAgg106
  z51 := Try.sizeOf106
  v51 := Try.zeroValue106
  t53 := Try.underlying22
  a53 := Try.isAgg22
  z53 := Try.sizeOf22
  v53 := Try.zeroValue22
  t131 := Try.underlying47
  a131 := Try.isAgg47
  z131 := Try.sizeOf47
  v131 := Try.zeroValue47
  t182 := Try.underlying98
  a182 := Try.isAgg98
  z182 := Try.sizeOf98
  v182 := Try.zeroValue98
  t183 := Try.underlying99
  a183 := Try.isAgg99
  z183 := Try.sizeOf99
  v183 := Try.zeroValue99
  t218 := Try.underlying109
  a218 := Try.isAgg109
  z218 := Try.sizeOf109
  v218 := Try.zeroValue109
  t222 := Try.underlying113
  a222 := Try.isAgg113
  z222 := Try.sizeOf113
  v222 := Try.zeroValue113
  t228 := Try.underlying118
  a228 := Try.isAgg118
  z228 := Try.sizeOf118
  v228 := Try.zeroValue118
  t229 := Try.underlying119
  a229 := Try.isAgg119
  z229 := Try.sizeOf119
  v229 := Try.zeroValue119 }
open Go.Sort Go.RowKit in
theorem Try.slices_Sort_int (blk off cap : Nat) (zs : List Int) (w : World) (hH : Holds (Value.int .i64) w blk off zs.toArray) (hblk : blk < w.heap.size) (hsz : zs.length < 4611686018427387904) :
    Calls Try.prog 54 #[.slice (some ⟨blk, off, none⟩) zs.length cap] w fun e w' =>
      e = .returned (.tuple #[]) ∧ ∃ n os, w' = grow (putRow (Value.int .i64) (Sort.ahead w n) blk off (zs.mergeSort fun x y => decide (x ≤ y)).toArray) os := Any.slices_Sort_int Try.lays189 blk off cap zs w hH hblk hsz
def Try.lays111_ren : Go.Shelf.Ren := ⟨fun | 111 => 39 | n => n, fun | 28 => 25 | 3 => 3 | 4 => 4 | 0 => 0 | n => n, fun | n => n⟩
theorem Try.lays111 : Go.Proofs.Lays.n111 Try.prog Try.lays111_ren := {
  mixed := by kernel_rfl
  f111 := Try.func39.trans (congrArg some (by kernel_rfl))
  t0 := Try.underlying0
  a0 := Try.isAgg0
  z0 := Try.sizeOf0
  v0 := Try.zeroValue0
  t3 := Try.underlying3
  a3 := Try.isAgg3
  z3 := Try.sizeOf3
  v3 := Try.zeroValue3
  t4 := Try.underlying4
  a4 := Try.isAgg4
  z4 := Try.sizeOf4
  v4 := Try.zeroValue4
  t28 := Try.underlying25
  a28 := Try.isAgg25
  z28 := Try.sizeOf25
  v28 := Try.zeroValue25 }
open Go.RowKit Go.Lib in
/-- slices.Equal at []int: "Equal reports whether two slices are equal: the same length and all elements equal. If the lengths are different, Equal returns false. Otherwise, the elements are compared in increasing index order, and the comparison stops at the first unequal pair. Empty and nil slices are considered equal.": IT RETURNS WHETHER THE TWO LISTS OF ELEMENTS ARE ONE; the world is as it was but for the count of draws (the test 's1[i] != s2[i]' has two reads, whose order the model draws, once a round). 'xs', 'ys': what the cells behind the two addresses hold (the spare capacity too, if you have it); 'xs.take n', 'ys.take m': the elements. THE TWO SLICES MAY OVERLAP. (LAID: no walk: one application.) -/
theorem Try.slices_Equal_int (b1 o1 n c b2 o2 m d : Nat) (xs ys : List Int) (w : World) (hx : n ≤ xs.length) (hy : m ≤ ys.length) (hbig : n ≤ 9223372036854775807) (hbig2 : m ≤ 9223372036854775807) (hc1 : ∀ j, j < xs.length → w.cell? ⟨b1, o1 + j, none⟩ = some (.int .i64 (xs.getD j 0))) (hc2 : ∀ j, j < ys.length → w.cell? ⟨b2, o2 + j, none⟩ = some (.int .i64 (ys.getD j 0))) :
    Calls Try.prog 39 #[.slice (some ⟨b1, o1, none⟩) n c, .slice (some ⟨b2, o2, none⟩) m d] w fun e w' => e = .returned (.bool (xs.take n == ys.take m)) ∧ ∃ q, w' = w.drewN q := Any.slices_Equal_int Try.lays111 b1 o1 n c b2 o2 m d xs ys w hx hy hbig hbig2 hc1 hc2
open Go.RowKit Go.Lib in
/-- The same where the first is of length 0 (a nil one too): no cell is asked for. (LAID: no walk: one application.) -/
theorem Try.slices_Equal_int_empty (a1 a2 : Option Addr) (c m d : Nat) (w : World) (hbig2 : m ≤ 9223372036854775807) :
    Calls Try.prog 39 #[.slice a1 0 c, .slice a2 m d] w fun e w' => e = .returned (.bool (decide (m = 0))) ∧ w' = w := Any.slices_Equal_int_empty Try.lays111 a1 a2 c m d w hbig2
def Try.laysNm215_ren : Go.Shelf.Ren := ⟨fun | 15 => 33 | n => n, fun | 22 => 25 | 3 => 3 | 4 => 4 | n => n, fun | n => n⟩
theorem Try.laysNm215 : Go.Proofs.Lays2.n15 Try.prog Try.laysNm215_ren := {
  mixed := by kernel_rfl
  f15 := Try.func33.trans (congrArg some (by kernel_rfl))
  t3 := Try.underlying3
  a3 := Try.isAgg3
  z3 := Try.sizeOf3
  v3 := Try.zeroValue3
  t4 := Try.underlying4
  a4 := Try.isAgg4
  z4 := Try.sizeOf4
  v4 := Try.zeroValue4
  t22 := Try.underlying25
  a22 := Try.isAgg25
  z22 := Try.sizeOf25
  v22 := Try.zeroValue25
  i3 := by kernel_rfl }
open Go.RowKit Go.Lib in
/-- slices.Clone at []int: "Clone returns a copy of the slice. The elements are copied using assignment, so this is a shallow clone. The result may have additional unused capacity. The result preserves the nilness of s.": OF A SLICE THAT IS NOT nil IT RETURNS A SLICE THAT IS NOT nil, OF THE SAME ELEMENTS, IN MEMORY OF THE CALL's OWN: in the how-to's words (6f): 'w'.ownsRow B e 1 v' n cells': v' begins at the head of a row among the blocks from B on (B: the heap's size at the call), not frozen, whose first cells are the elements · 'Below B w w'': below B all is as it was. The capacity is whatever the run-time gives. 'zs': what the cells behind the slice's address hold; 'zs.take n': its elements. (LAID: no walk: one application.) -/
theorem Try.slices_Clone_int (b off n c : Nat) (zs : List Int) (w : World) (hz : n ≤ zs.length) (hbig : n * 8 ≤ 140737488355328) (hc : ∀ j, j < zs.length → w.cell? ⟨b, off + j, none⟩ = some (.int .i64 (zs.getD j 0))) :
    Calls Try.prog 33 #[.slice (some ⟨b, off, none⟩) n c] w fun e w' => ∃ v', e = .returned v' ∧ w'.ownsRow w.heap.size 3 1 v' n ((zs.take n).map (Value.int .i64)) ∧ v' ≠ .slice none 0 0 ∧ Below w.heap.size w w' := Any.slices_Clone_int Try.laysNm215 b off n c zs w hz hbig hc
open Go.RowKit Go.Lib in
/-- The same at nil: nil comes back; the world is as it was. (LAID: no walk: one application.) -/
theorem Try.slices_Clone_int_nil (n c : Nat) (w : World) :
    Calls Try.prog 33 #[.slice none n c] w fun e w' => e = .returned (.slice none 0 0) ∧ w' = w := Any.slices_Clone_int_nil Try.laysNm215 n c w
open Go.RowKit Go.Lib in
/-- The same at a slice of length 0 that is not nil, WHATEVER ITS ADDRESS (no cell is asked for): a slice that is not nil and owns nothing comes back. (LAID: no walk: one application.) -/
theorem Try.slices_Clone_int_zero (a : Addr) (c : Nat) (w : World) :
    Calls Try.prog 33 #[.slice (some a) 0 c] w fun e w' => ∃ v', e = .returned v' ∧ w'.ownsRow w.heap.size 3 1 v' 0 [] ∧ v' ≠ .slice none 0 0 ∧ Below w.heap.size w w' := Any.slices_Clone_int_zero Try.laysNm215 a c w
def Try.laysNm220_ren : Go.Shelf.Ren := ⟨fun | 20 => 55 | n => n, fun | 22 => 25 | 3 => 3 | 4 => 4 | 0 => 0 | n => n, fun | n => n⟩
theorem Try.laysNm220 : Go.Proofs.Lays2.n20 Try.prog Try.laysNm220_ren := {
  mixed := by kernel_rfl
  f20 := Try.func55.trans (congrArg some (by kernel_rfl))
  t0 := Try.underlying0
  a0 := Try.isAgg0
  z0 := Try.sizeOf0
  v0 := Try.zeroValue0
  t3 := Try.underlying3
  a3 := Try.isAgg3
  z3 := Try.sizeOf3
  v3 := Try.zeroValue3
  t4 := Try.underlying4
  a4 := Try.isAgg4
  z4 := Try.sizeOf4
  v4 := Try.zeroValue4
  t22 := Try.underlying25
  a22 := Try.isAgg25
  z22 := Try.sizeOf25
  v22 := Try.zeroValue25
  i3 := by kernel_rfl }
open Go.RowKit Go.Lib Go.Sort in
/-- slices.Compact at []int, over an array: the library's two loops are walked. (LAID: no walk: one application.) -/
theorem Try.slices_Compact_int_arr (blk off cap : Nat) (d : Array Int) (w : World) (hH : Holds encI w blk off d) (hsz : d.size ≤ 9223372036854775807) (hcap : d.size ≤ cap) :
    Calls Try.prog 55 #[.slice (some ⟨blk, off, none⟩) d.size cap] w fun e w' => e = .returned (.slice (some ⟨blk, off, none⟩) (compactUpTo d d.size).length cap) ∧ ∃ q, w' = putRow encI (Sort.ahead w q) blk off (compactUpTo d d.size ++ List.replicate (d.size - (compactUpTo d d.size).length) 0).toArray := Any.slices_Compact_int_arr Try.laysNm220 blk off cap d w hH hsz hcap
open Go.RowKit Go.Lib Go.Sort in
/-- slices.Compact at []int: "Compact replaces consecutive runs of equal elements with a single copy. This is like the uniq command found on Unix. Compact modifies the contents of the slice s and returns the modified slice, which may have a smaller length. Compact zeroes the elements between the new length and the original length. The result preserves the nilness of s.": IT RETURNS THE SLICE CUT TO 'Lib.compact zs'; ITS CELLS HOLD 'Lib.compact zs', THEN ZERO VALUES up to the old length; all else is as it was, but for the count of draws. IN THE WORDS OF slices.Sort's CONTRACT ('Holds', 'putRow'): so the everyday 'slices.Sort(xs); xs = slices.Compact(xs)' goes from the one contract to the other. It asks 'zs.length ≤ cap' (every slice's: the reslicing 's[:k]' looks at it). Length 0, nil: '.._empty'. (LAID: no walk: one application.) -/
theorem Try.slices_Compact_int (blk off cap : Nat) (zs : List Int) (w : World) (hH : Holds (Value.int .i64) w blk off zs.toArray) (hsz : zs.length ≤ 9223372036854775807) (hcap : zs.length ≤ cap) :
    Calls Try.prog 55 #[.slice (some ⟨blk, off, none⟩) zs.length cap] w fun e w' => e = .returned (.slice (some ⟨blk, off, none⟩) (Lib.compact zs).length cap) ∧ ∃ q, w' = putRow (Value.int .i64) (Sort.ahead w q) blk off (Lib.compact zs ++ List.replicate (zs.length - (Lib.compact zs).length) 0).toArray := Any.slices_Compact_int Try.laysNm220 blk off cap zs w hH hsz hcap
open Go.RowKit Go.Lib Go.Sort in
/-- The same at a slice of length 0, a nil one too: it comes back as it is. (LAID: no walk: one application.) -/
theorem Try.slices_Compact_int_empty (a : Option Addr) (cap : Nat) (w : World) :
    Calls Try.prog 55 #[.slice a 0 cap] w fun e w' => e = .returned (.slice a 0 cap) ∧ w' = w := Any.slices_Compact_int_empty Try.laysNm220 a cap w
def Try.laysNm237_ren : Go.Shelf.Ren := ⟨fun | 37 => 92 | n => n, fun | 3 => 3 | 4 => 4 | n => n, fun | n => n⟩
theorem Try.laysNm237 : Go.Proofs.Lays2.n37 Try.prog Try.laysNm237_ren := {
  mixed := by kernel_rfl
  f37 := Try.func92.trans (congrArg some (by kernel_rfl))
  t3 := Try.underlying3
  a3 := Try.isAgg3
  z3 := Try.sizeOf3
  v3 := Try.zeroValue3
  t4 := Try.underlying4
  a4 := Try.isAgg4
  z4 := Try.sizeOf4
  v4 := Try.zeroValue4 }
open Go.RowKit Go.Lib in
/-- cmp.isNaN[int]: 'x != x': false. (LAID: no walk: one application.) -/
theorem Try.cmp_isNaN_int2 (x : Int) (w : World) :
    Calls Try.prog 92 #[.int .i64 x] w fun e w' => e = .returned (.bool false) ∧ w' = w := Any.cmp_isNaN_int2 Try.laysNm237 x w
def Try.laysNm231_ren : Go.Shelf.Ren := ⟨fun | 31 => 79 | 37 => 92 | n => n, fun | 3 => 3 | 4 => 4 | n => n, fun | n => n⟩
theorem Try.laysNm231 : Go.Proofs.Lays2.n31 Try.prog Try.laysNm231_ren := {
  mixed := by kernel_rfl
  f31 := Try.func79.trans (congrArg some (by kernel_rfl))
  f37 := Try.func92.trans (congrArg some (by kernel_rfl))
  t3 := Try.underlying3
  a3 := Try.isAgg3
  z3 := Try.sizeOf3
  v3 := Try.zeroValue3
  t4 := Try.underlying4
  a4 := Try.isAgg4
  z4 := Try.sizeOf4
  v4 := Try.zeroValue4 }
open Go.RowKit Go.Lib in
/-- cmp.Less[int]: "Less reports whether x is less than y.": 'x < y'; the world is as it was. (LAID: no walk: one application.) -/
theorem Try.cmp_Less_int2 (x y : Int) (w : World) :
    Calls Try.prog 79 #[.int .i64 x, .int .i64 y] w fun e w' => e = .returned (.bool (decide (x < y))) ∧ w' = w := Any.cmp_Less_int2 Try.laysNm231 x y w
open Go.RowKit Go.Lib Go.Sort in
/-- slices.Compact at []int, of an argument: the slice cut to 'Lib.compact (elements)'; the n cells hold that, then zeros. (LAID: no walk: one application.) -/
theorem Try.slices_Compact_int_cells (b off n c : Nat) (zs : List Int) (w : World) (hz : n ≤ zs.length) (hbig : n ≤ 9223372036854775807) (hcap : n ≤ c) (hc : ∀ j, j < zs.length → w.cell? ⟨b, off + j, none⟩ = some (.int .i64 (zs.getD j 0))) (hf : ∀ j, j < n → w.frozen? ⟨b, off + j, none⟩ = false) :
    Calls Try.prog 55 #[.slice (some ⟨b, off, none⟩) n c] w fun e w' => e = .returned (.slice (some ⟨b, off, none⟩) (Lib.compact (zs.take n)).length c) ∧ ∃ q, w' = (w.drewN q).setCells b off ((Lib.compact (zs.take n) ++ List.replicate (n - (Lib.compact (zs.take n)).length) 0).map (Value.int .i64)) := Any.slices_Compact_int_cells Try.laysNm220 b off n c zs w hz hbig hcap hc hf
open Go.RowKit Go.Sort in
/-- .. and plain. (LAID: no walk: one application.) -/
theorem Try.slices_Sort_int_none (p : Option Addr) (cap : Nat) (w : World) :
    Calls Try.prog 54 #[.slice p 0 cap] w fun e w' => e = .returned (.tuple #[]) ∧ w' = w := Any.slices_Sort_int_none Try.lays189 p cap w
open Go.RowKit Go.Lib in
theorem Try.slices_Equal_int_lens (a1 a2 : Option Addr) (n c m d : Nat) (w : World) (hnm : n ≠ m) :
    Calls Try.prog 39 #[.slice a1 n c, .slice a2 m d] w fun e w' => e = .returned (.bool false) ∧ w' = w := Any.slices_Equal_int_lens Try.lays111 a1 a2 n c m d w hnm
end Go.Proofs
/- The walks of package plan: which aisles a way goes through. -/
namespace Go.Proofs.Ytmkepmjdckdpgaa
open Go.RowKit Go.Sort

/-! ### Mathematics -/
theorem putR_rise (n : Int) : ∀ (l : List Int) (d : Bool), l.Pairwise (· < ·) → (putR n l d).Pairwise (· < ·)
  | [], d, _ => by cases d <;> simp [putR]
  | x :: l, d, h => by
    rw [List.pairwise_cons] at h
    have ih := putR_rise n l (d || decide (n ≤ x)) h.2
    have hm := fun m => putR_mem n l (d || decide (n ≤ x)) m
    unfold putR
    generalize putR n l (d || decide (n ≤ x)) = R at *
    by_cases h1 : d = false ∧ n ≤ x
    · obtain ⟨rfl, h1⟩ := h1
      have hR : ∀ m ∈ R, x < m := by
        intro m hmR
        rcases (hm m).1 hmR with ⟨h2, _⟩ | ⟨h2, _⟩
        · simp [h1] at h2
        · exact h.1 m h2
      rw [if_pos ⟨rfl, h1⟩]
      by_cases h3 : x = n
      · rw [if_neg (by simp [h3])]
        subst h3
        simp only [List.append_nil, List.singleton_append, List.pairwise_cons]
        exact ⟨hR, ih⟩
      · rw [if_pos h3]
        simp only [List.cons_append, List.nil_append, List.pairwise_cons, List.mem_cons]
        refine ⟨fun m hmm => ?_, hR, ih⟩
        rcases hmm with rfl | hmm
        · omega
        · have := hR m hmm; omega
    · rw [if_neg h1]
      by_cases h3 : x = n
      · rw [if_neg (by simp [h3])]
        simpa using ih
      · rw [if_pos h3]
        simp only [List.cons_append, List.nil_append, List.pairwise_cons]
        refine ⟨fun m hmR => ?_, ih⟩
        rcases (hm m).1 hmR with ⟨h2, rfl⟩ | ⟨h2, _⟩
        · simp at h2
          omega
        · exact h.1 m h2
theorem crs7_rise (hit : Ais → Bool) (l : List Ais) : (crs7 hit l).Pairwise (· < ·) := by
  unfold crs7
  have key : ∀ (l : List Ais) (out : List Int), out.Pairwise (· < ·) → (l.foldl (fun out a => if hit a = true then putR a.id out false else out) out).Pairwise (· < ·) := by
    intro l
    induction l with
    | nil => intro out h; exact h
    | cons a l ih =>
      intro out h
      rw [List.foldl_cons]
      refine ih _ ?_
      split
      · exact putR_rise _ _ _ h
      · exact h
  exact key l [] List.Pairwise.nil
/-- the IDs of those that are hit -/
def hids (hit : Ais → Bool) (l : List Ais) : List Int := (l.filter hit).map Ais.id
theorem crs7_sorted (hit : Ais → Bool) (l : List Ais) : Lib.compact ((hids hit l).mergeSort fun x y => decide (x ≤ y)) = crs7 hit l := by
  refine rise_ext (compact_rise (sorted_ms _)) (crs7_rise hit l) fun m => ?_
  rw [compact_mem, List.mem_mergeSort, crs7_mem]
  unfold hids
  rw [List.mem_map]
  constructor
  · rintro ⟨a, h1, h2⟩
    rw [List.mem_filter] at h1
    exact ⟨a, h1.1, h1.2, h2⟩
  · rintro ⟨a, h1, h2, h3⟩
    exact ⟨a, List.mem_filter.2 ⟨h1, h2⟩, h3⟩
theorem hids_next (hit : Ais → Bool) (l : List Ais) (k : Nat) (h : k < l.length) : hids hit (l.take (k + 1)) = hids hit (l.take k) ++ (if hit (pa l k) = true then [(pa l k).id] else []) := by
  unfold hids
  rw [List.take_succ_eq_append_getElem h, List.filter_append, List.map_append, pa_get l k h]
  congr 1
  by_cases hh : hit l[k] = true <;> simp [hh]
theorem hids_len (hit : Ais → Bool) (l : List Ais) (k : Nat) : (hids hit (l.take k)).length ≤ l.length := by
  unfold hids
  rw [List.length_map]
  exact Nat.le_trans (List.length_filter_le _ _) (by simp; omega)
theorem meet_ex (a b : Ais) : meetB a b = true ↔ ∃ x y, hasB a x y = true ∧ hasB b x y = true := by
  rw [meet_is, decide_eq_true_eq]
  constructor
  · intro h
    refine ⟨max a.lx b.lx, max a.ly b.ly, ?_, ?_⟩ <;> unfold hasB <;> rw [decide_eq_true_eq] <;> omega
  · rintro ⟨x, y, h1, h2⟩
    unfold hasB at h1 h2
    rw [decide_eq_true_eq] at h1 h2
    omega
/-- the block between two corners -/
def blk (a b : Int × Int) : Ais := ⟨0, min a.1 b.1, min a.2 b.2, max a.1 b.1, max a.2 b.2⟩
theorem hit_is (a b : Int × Int) (how : Int) (A : Ais) : hitB (rway a b how) A = (meetB A (blk a (trn how a b)) || meetB A (blk (trn how a b) b)) := by
  rw [Bool.eq_iff_iff, Bool.or_eq_true, meet_ex, meet_ex]
  unfold hitB
  rw [List.any_eq_true]
  obtain ⟨a1, a2⟩ := a
  obtain ⟨b1, b2⟩ := b
  by_cases hh : how = 1
  · subst hh
    simp only [mem_y, onY, btw, trn, if_pos, blk]
    constructor
    · rintro ⟨⟨x, y⟩, h1 | h1, h2⟩
      · exact .inl ⟨x, y, h2, by unfold hasB; rw [decide_eq_true_eq]; simp only at *; omega⟩
      · exact .inr ⟨x, y, h2, by unfold hasB; rw [decide_eq_true_eq]; simp only at *; omega⟩
    · rintro (⟨x, y, h1, h2⟩ | ⟨x, y, h1, h2⟩)
      · refine ⟨(x, y), .inl ?_, h1⟩
        unfold hasB at h2
        rw [decide_eq_true_eq] at h2
        simp only at *
        omega
      · refine ⟨(x, y), .inr ?_, h1⟩
        unfold hasB at h2
        rw [decide_eq_true_eq] at h2
        simp only at *
        omega
  · simp only [mem_x hh, onX, btw, trn, if_neg hh, blk]
    constructor
    · rintro ⟨⟨x, y⟩, h1 | h1, h2⟩
      · exact .inl ⟨x, y, h2, by unfold hasB; rw [decide_eq_true_eq]; simp only at *; omega⟩
      · exact .inr ⟨x, y, h2, by unfold hasB; rw [decide_eq_true_eq]; simp only at *; omega⟩
    · rintro (⟨x, y, h1, h2⟩ | ⟨x, y, h1, h2⟩)
      · refine ⟨(x, y), .inl ?_, h1⟩
        unfold hasB at h2
        rw [decide_eq_true_eq] at h2
        simp only at *
        omega
      · refine ⟨(x, y), .inr ?_, h1⟩
        unfold hasB at h2
        rw [decide_eq_true_eq] at h2
        simp only at *
        omega

/-! ### Sorted, and each once -/
theorem psort_any (a w : World) (B : Nat) (v : Value) (l : List Int) (hB : Below B a w) (hz : B ≤ w.heap.size) (h : OwnI w B v l) (hl : l.length ≤ 1000000) :
    Calls Try.prog 54 #[v] w fun e w' => e = .returned (.tuple #[]) ∧
      Calls Try.prog 55 #[v] w' fun e w'' => ∃ u, e = .returned u ∧ IntsAt w'' u (Lib.compact (l.mergeSort fun x y => decide (x ≤ y))) ∧ Below B a w'' := by
  by_cases h0 : l.length = 0
  · obtain ⟨p, c, rfl⟩ := h.ints.form
    have hnil : l = [] := List.eq_nil_of_length_eq_zero h0
    have hc : Lib.compact (l.mergeSort fun x y => decide (x ≤ y)) = [] := List.eq_nil_of_length_eq_zero (by have h1 := Lib.compact_length_le (l.mergeSort fun x y => decide (x ≤ y)); rw [List.length_mergeSort] at h1; omega)
    rw [h0, hc]
    refine (Try.slices_Sort_int_none p c w).mono ?_
    rintro e w1 ⟨rfl, rfl⟩
    refine ⟨rfl, (Try.slices_Compact_int_empty p c w1).mono ?_⟩
    rintro e w2 ⟨rfl, rfl⟩
    refine ⟨_, rfl, ?_, hB⟩
    have := h.ints
    rw [hnil] at this
    exact this
  · obtain ⟨g, cap, rfl, hBg, hg, hcap, hH⟩ := h.holds (by omega)
    have hlen : (l.mergeSort fun x y => decide (x ≤ y)).length = l.length := List.length_mergeSort l
    refine (Try.slices_Sort_int g 0 cap l w hH hg (by omega)).mono ?_
    rintro e w1 ⟨rfl, n, os, rfl⟩
    refine ⟨rfl, ?_⟩
    have hS := holds_sorted (n := n) (os := os) hH hg
    have hC := Try.slices_Compact_int g 0 cap (l.mergeSort fun x y => decide (x ≤ y)) _ hS (by omega) (by omega)
    have hI := fun q => ints_compact (n := n) (q := q) (os := os) hH hg hcap
    have hB1 := below_row (n := n) (off := 0) (d := (l.mergeSort fun x y => decide (x ≤ y)).toArray) (os := os) hB hBg hz
    rw [hlen] at hC
    refine hC.mono ?_
    rintro e w2 ⟨rfl, q, rfl⟩
    refine ⟨_, rfl, ?_, below_row' hB1 hBg (by have := hB1.size; simp; omega)⟩
    have := hI q
    rw [hlen] at this
    exact this

set_option maxHeartbeats 4000000 in
set_option maxRecDepth 100000 in
theorem pCross_any (va : Value) (l : List Ais) (x1 y1 x2 y2 how : Int) (w : World) (ha : AisAt w va l) (hl : l.length ≤ 100000) :
    Calls Try.prog 34 #[va, .agg #[.int .i64 x1, .int .i64 y1], .agg #[.int .i64 x2, .int .i64 y2], .int .i64 how] w fun e w' => ∃ v, e = .returned v ∧ IntsAt w' v (crs7 (hitB (rway (wd x1, wd y1) (wd x2, wd y2) how)) l) ∧ RowKit.Below w.heap.size w w' := by
  obtain ⟨i0, hi, hz0, hz1, hz2⟩ := info_parts info_int
  have HA := Lib.hid ha
  obtain ⟨a, c, rfl⟩ := RowsAt.form ha
  clear ha
  have n1 := fun w => pnumber_any x1 y1 w
  have n2 := fun w => pnumber_any x2 y2 w
  have b1 := wd_bd x1
  have b2 := wd_bd y1
  have b3 := wd_bd x2
  have b4 := wd_bd y2
  generalize wd x1 = a1 at *
  generalize wd y1 = a2 at *
  generalize wd x2 = u1 at *
  generalize wd y2 = u2 at *
  have ba : (-1000 ≤ a1 ∧ a1 ≤ 1000) ∧ -1000 ≤ a2 ∧ a2 ≤ 1000 := ⟨b1, b2⟩
  have bb : (-1000 ≤ u1 ∧ u1 ≤ 1000) ∧ -1000 ≤ u2 ∧ u2 ≤ 1000 := ⟨b3, b4⟩
  obtain ⟨C1, C2, c1, c2, htrn, hc1, hc2, bc, _, _, hbt⟩ := corner_is a1 a2 u1 u2 how ba bb
  have hit := hit_is (a1, a2) (u1, u2) how
  rw [htrn] at hit
  have hf1 : Fl (fl a1) a1 := fl_small (by omega)
  have hf2 : Fl (fl a2) a2 := fl_small (by omega)
  have hf3 : Fl (fl u1) u1 := fl_small (by omega)
  have hf4 : Fl (fl u2) u2 := fl_small (by omega)
  have hp1 := fun w => ppoint_any _ _ a1 a2 hf1 hf2 (by omega) (by omega) w
  have hp2 := fun w => ppoint_any _ _ c1 c2 hc1 hc2 (by omega) (by omega) w
  have hp3 := fun w => ppoint_any _ _ u1 u2 hf3 hf4 (by omega) (by omega) w
  have hk1 := fun w => pblock_any a1 a2 c1 c2 w
  have hk2 := fun w => pblock_any c1 c2 u1 u2 w
  have hX : blk (a1, a2) (c1, c2) = ⟨0, min a1 c1, min a2 c2, max a1 c1, max a2 c2⟩ := rfl
  have hY : blk (c1, c2) (u1, u2) = ⟨0, min c1 u1, min c2 u2, max c1 u1, max c2 u2⟩ := rfl
  generalize rway (a1, a2) (u1, u2) how = W at *
  generalize fl a1 = A1 at *
  generalize fl a2 = A2 at *
  generalize fl u1 = U1 at *
  generalize fl u2 = U2 at *
  obtain ⟨m1, h1⟩ : ∃ m, min a1 c1 = m := ⟨_, rfl⟩
  obtain ⟨m2, h2⟩ : ∃ m, min a2 c2 = m := ⟨_, rfl⟩
  obtain ⟨m3, h3⟩ : ∃ m, max a1 c1 = m := ⟨_, rfl⟩
  obtain ⟨m4, h4⟩ : ∃ m, max a2 c2 = m := ⟨_, rfl⟩
  rw [h1, h2, h3, h4] at hk1 hX
  clear h1 h2 h3 h4
  obtain ⟨k1, h1⟩ : ∃ m, min c1 u1 = m := ⟨_, rfl⟩
  obtain ⟨k2, h2⟩ : ∃ m, min c2 u2 = m := ⟨_, rfl⟩
  obtain ⟨k3, h3⟩ : ∃ m, max c1 u1 = m := ⟨_, rfl⟩
  obtain ⟨k4, h4⟩ : ∃ m, max c2 u2 = m := ⟨_, rfl⟩
  rw [h1, h2, h3, h4] at hk2 hY
  rw [hX, hY] at hit
  clear h1 h2 h3 h4 hX hY htrn hf1 hf2 hf3 hf4 ba bb bc b1 b2 b3 b4 hc1 hc2
  have N1 := Lib.hid n1
  have N2 := Lib.hid n2
  have HBT := Lib.hid hbt
  have HP1 := Lib.hid hp1
  have HP2 := Lib.hid hp2
  have HP3 := Lib.hid hp3
  have HK1 := Lib.hid hk1
  have HK2 := Lib.hid hk2
  have HIT := Lib.hid hit
  clear n1 n2 hbt hp1 hp2 hp3 hk1 hk2 hit
  have hB : RowKit.Below w.heap.size w ((w.alloc (.cells #[.int .i64 x1, .int .i64 y1] 24)).alloc (.cells #[.int .i64 x2, .int .i64 y2] 24)) := ((Below.refl _ _).alloc (Nat.le_refl _) _).alloc (by simp) _
  have C0 := (Cell2.new w (.int .i64 x1) (.int .i64 y1) 24).alloc (.cells #[.int .i64 x2, .int .i64 y2] 24)
  have D0 := Cell2.new (w.alloc (.cells #[.int .i64 x1, .int .i64 y1] 24)) (.int .i64 x2) (.int .i64 y2) 24
  simp only [World.size_alloc] at D0
  go_enter Try.func34, Try.ntmps34
  go_wp2
  refine wp_region_calm0 (by kernel_rfl) (by kernel_rfl) fun M => ?_
  have e0 := fun n : In M.w => n.cell (M.cell C0.c0)
  have e1 := fun n : In M.w => n.cell (M.cell C0.c1)
  have e2 := fun n : In M.w => n.cell (M.cell D0.c0)
  have e3 := fun n : In M.w => n.cell (M.cell D0.c1)
  repeat (go_big_quiet_step (first
    | (go_at_call 51; with_reducible exact In.call (N1.out _))
    | (go_at_call 51; with_reducible exact In.call (N2.out _))))
  refine wpQuiet_nil ?_
  intro w1 hb
  replace hB := hB.trans (hb.mono hB.size)
  clear e0 e1 e2 e3 M C0 D0 hb
  go_wp2_with (first
    | (go_at_call 52; (with_reducible refine (HBT.out _).mono ?_); rintro e w3 ⟨rfl, rfl⟩)
    | (go_at_call 53; (with_reducible refine (HP1.out _).mono ?_); rintro e w2 ⟨rfl, hb⟩; replace hB := hB.trans (hb.mono hB.size); clear hb HP1)
    | (go_at_call 44; (with_reducible refine (HK1.out _).mono ?_); rintro e w4 ⟨rfl, hb⟩; replace hB := hB.trans (hb.mono hB.size); have CX := Cell5.new w4 ⟨0, m1, m2, m3, m4⟩ 45; replace hB := hB.alloc hB.size (.cells #[.int .i64 0, .int .i64 m1, .int .i64 m2, .int .i64 m3, .int .i64 m4] 45); clear hb HK1)
    | (go_at_call 44; (with_reducible refine (HK2.out _).mono ?_); rintro e w6 ⟨rfl, hb⟩; replace hB := hB.trans (hb.mono hB.size); replace CX := (CX.kept hb).alloc (.cells #[.int .i64 0, .int .i64 k1, .int .i64 k2, .int .i64 k3, .int .i64 k4] 45); have CY := Cell5.new w6 ⟨0, k1, k2, k3, k4⟩ 45; replace hB := hB.alloc hB.size (.cells #[.int .i64 0, .int .i64 k1, .int .i64 k2, .int .i64 k3, .int .i64 k4] 45); clear hb HK2)
    | (go_at_call 53; (with_reducible refine (HP2.out _).mono ?_); rintro e w5 ⟨rfl, hb⟩; replace hB := hB.trans (hb.mono hB.size); (try replace CX := CX.kept hb); clear hb)
    | (go_at_call 53; (with_reducible refine (HP3.out _).mono ?_); rintro e w7 ⟨rfl, hb⟩; replace hB := hB.trans (hb.mono hB.size); replace CX := CX.kept hb; clear hb HP3))
  generalize (w6.alloc (.cells #[.int .i64 0, .int .i64 k1, .int .i64 k2, .int .i64 k3, .int .i64 k4] 45)) = wl at *
  have HCX := Lib.hid CX
  have HCY := Lib.hid CY
  have HB0 := Lib.hid hB
  have ltx := World.block_lt_of_cell? _ _ CX.c0
  have lty := World.block_lt_of_cell? _ _ CY.c0
  clear CX CY hB
  go_loopw [14, 16, 37] (fun v _ i wr => ∃ k : Nat, k ≤ l.length ∧ i = .int .i64 k ∧ OwnI wr wl.heap.size v (hids (hitB W) (l.take k)) ∧ RowKit.Below wl.heap.size wl wr) (fun _ _ i _ => l.length - (intOf i).toNat)
  case atStart => exact ⟨0, Nat.zero_le _, rfl, OwnR.nil _ _ _ _ _, Below.refl _ _⟩
  case round =>
    obtain ⟨k, hk, rfl, hown, hB⟩ := hrel
    have HB := Lib.hid (HB0.out.trans (hB.mono HB0.out.size))
    by_cases hlt : k < l.length
    · have HAR := Lib.hid (HA.out.kept HB.out)
      obtain ⟨g, o, c', i, e1, e2, f1, f2, hlk, ev, hc, hg, p0, p1, p2, p3, p4⟩ := AisAt.at HAR.out k hlt
      cases ev
      have hnx := hids_next (hitB W) l k hlt
      have hit := HIT.out ⟨i, e1, e2, f1, f2⟩
      rw [hlk, hit] at hnx
      have hm1 := fun w => pMeet_any ⟨i, e1, e2, f1, f2⟩ ⟨0, m1, m2, m3, m4⟩ w
      have hm2 := fun w => pMeet_any ⟨i, e1, e2, f1, f2⟩ ⟨0, k1, k2, k3, k4⟩ w
      generalize meetB ⟨i, e1, e2, f1, f2⟩ ⟨0, m1, m2, m3, m4⟩ = t1 at *
      generalize meetB ⟨i, e1, e2, f1, f2⟩ ⟨0, k1, k2, k3, k4⟩ = t2 at *
      simp only at hm1 hm2 hnx
      have HM1 := Lib.hid hm1
      have HM2 := Lib.hid hm2
      have HNX := Lib.hid hnx
      have hzr : wl.heap.size ≤ wr.heap.size := hB.size
      have hBa := hB.alloc hzr (.cells #[.int .i64 i, .int .i64 e1, .int .i64 e2, .int .i64 f1, .int .i64 f2] 45)
      have hOa := hown.alloc (.cells #[.int .i64 i, .int .i64 e1, .int .i64 e2, .int .i64 f1, .int .i64 f2] 45)
      have hDa := Cell5.new wr ⟨i, e1, e2, f1, f2⟩ 45
      have CX := (HCX.out.below hBa ltx)
      have CY := (HCY.out.below hBa lty)
      have hlen := hids_len (hitB W) l k
      have j0 : (0 : Int) ≤ (k : Int) := by omega
      have j1 : (k : Int) < (l.length : Int) := by omega
      have HO := Lib.hid hOa
      have HD := Lib.hid hDa
      have HYY := Lib.hid CY
      obtain ⟨x0, x1', x2', x3', x4'⟩ := CX
      simp only at x0 x1' x2' x3' x4'
      obtain ⟨y0, y1', y2', y3', y4'⟩ := CY
      simp only at y0 y1' y2' y3' y4'
      clear hm1 hm2 hnx hit hlk hown hOa hDa
      cases t1
      · cases t2
        · go_wp2_with (first
            | (go_at_call 43; (with_reducible refine (HM1.out _).mono ?_); rintro e w8 ⟨rfl, hb⟩; have hB8 := hBa.trans (hb.mono hBa.size); have HO8 := Lib.hid (HO.out.kept hb); obtain ⟨d0, d1, d2, d3, d4⟩ := HD.out.kept hb; obtain ⟨g0, g1, g2, g3, g4⟩ := HYY.out.kept hb; simp only at d0 d1 d2 d3 d4 g0 g1 g2 g3 g4; clear x0 x1' x2' x3' x4' y0 y1' y2' y3' y4' hb HM1)
            | (go_at_call 43; (with_reducible refine (HM2.out _).mono ?_); rintro e w9 ⟨rfl, hb⟩; have hB9 := hB8.trans (hb.mono hB8.size); have HO9 := Lib.hid (HO8.out.kept hb); clear hb d0 d1 d2 d3 d4 g0 g1 g2 g3 g4 HM2))
          go_roundw
          case rel => exact ⟨k + 1, by omega, by go_num, by rw [HNX.out]; simpa using HO9.out, hB9⟩
          case measure => simp [intOf]; omega
        · go_wp2_with (first
            | (go_at_call 43; (with_reducible refine (HM1.out _).mono ?_); rintro e w8 ⟨rfl, hb⟩; have hB8 := hBa.trans (hb.mono hBa.size); have HO8 := Lib.hid (HO.out.kept hb); obtain ⟨d0, d1, d2, d3, d4⟩ := HD.out.kept hb; have HD8 := Lib.hid (HD.out.kept hb); obtain ⟨g0, g1, g2, g3, g4⟩ := HYY.out.kept hb; simp only at d0 d1 d2 d3 d4 g0 g1 g2 g3 g4; clear x0 x1' x2' x3' x4' y0 y1' y2' y3' y4' hb HM1)
            | (go_at_call 43; (with_reducible refine (HM2.out _).mono ?_); rintro e w9 ⟨rfl, hb⟩; have hB9 := hB8.trans (hb.mono hB8.size); have HO9 := Lib.hid (HO8.out.kept hb); clear d0 d1 d2 d3 d4 g0 g1 g2 g3 g4; obtain ⟨d0, _, _, _, _⟩ := HD8.out.kept hb; simp only at d0; clear hb HM2; have ho := HO9.out.alloc (.cells #[.int .i64 i] 3); have hBo := hB9.alloc hB9.size (.cells #[.int .i64 i] 3); have hsz : wl.heap.size ≤ (w9.alloc (.cells #[.int .i64 i] 3)).heap.size := hBo.size; have hH : (w9.alloc (.cells #[.int .i64 i] 3)).heap[w9.heap.size]? = some (.cells #[.int .i64 i] 3) := Array.getElem?_push_size)
            | (at_builtin; refine wpList_append_own _ rfl _ _ 25 rfl wl.heap.size 3 i0 (.int .i64 0) 1 8 Try.underlying25 hi hz0 hz1 hz2 rfl (by decide) _ _ _ rfl ho ⟨w9.heap.size, 0, none⟩ 1 1 [.int .i64 i] rfl rfl (World.news_of_block (cs := #[.int .i64 i]) hH) (by intro u hu; simp at hu; rcases hu with rfl; rfl) (by unfold maxLen; omega) (by omega) hsz ?_))
          intro v' wz h1 h2 _
          have oz : OwnI wz wl.heap.size v' (hids (hitB W) (l.take (k + 1))) := by
            rw [HNX.out]
            exact OwnR.snoc h1 (by simp) rfl
          have hBz : RowKit.Below wl.heap.size wl wz := OwnR.below ho hBo hsz h2
          have HOZ := Lib.hid oz
          clear h1 h2 ho hH oz hBo hsz
          go_wp2
          go_roundw
          case rel => exact ⟨k + 1, by omega, by go_num, HOZ.out, hBz⟩
          case measure => simp [intOf]; omega
      · go_wp2_with (first
          | (go_at_call 43; (with_reducible refine (HM1.out _).mono ?_); rintro e w8 ⟨rfl, hb⟩; have hB8 := hBa.trans (hb.mono hBa.size); have HO8 := Lib.hid (HO.out.kept hb); obtain ⟨d0, d1, d2, d3, d4⟩ := HD.out.kept hb; have HD8 := Lib.hid (HD.out.kept hb); obtain ⟨g0, g1, g2, g3, g4⟩ := HYY.out.kept hb; simp only at d0 d1 d2 d3 d4 g0 g1 g2 g3 g4; clear d1 d2 d3 d4 g0 g1 g2 g3 g4 x0 x1' x2' x3' x4' y0 y1' y2' y3' y4' hb HM1; have ho := HO8.out.alloc (.cells #[.int .i64 i] 3); have hBo := hB8.alloc hB8.size (.cells #[.int .i64 i] 3); have hsz : wl.heap.size ≤ (w8.alloc (.cells #[.int .i64 i] 3)).heap.size := hBo.size; have hH : (w8.alloc (.cells #[.int .i64 i] 3)).heap[w8.heap.size]? = some (.cells #[.int .i64 i] 3) := Array.getElem?_push_size)
          | (at_builtin; refine wpList_append_own _ rfl _ _ 25 rfl wl.heap.size 3 i0 (.int .i64 0) 1 8 Try.underlying25 hi hz0 hz1 hz2 rfl (by decide) _ _ _ rfl ho ⟨w8.heap.size, 0, none⟩ 1 1 [.int .i64 i] rfl rfl (World.news_of_block (cs := #[.int .i64 i]) hH) (by intro u hu; simp at hu; rcases hu with rfl; rfl) (by unfold maxLen; omega) (by omega) hsz ?_))
        intro v' wz h1 h2 _
        have oz : OwnI wz wl.heap.size v' (hids (hitB W) (l.take (k + 1))) := by
          rw [HNX.out]
          exact OwnR.snoc h1 (by simp) rfl
        have hBz : RowKit.Below wl.heap.size wl wz := OwnR.below ho hBo hsz h2
        have HOZ := Lib.hid oz
        clear h1 h2 ho hH oz hBo hsz
        go_wp2
        go_roundw
        case rel => exact ⟨k + 1, by omega, by go_num, HOZ.out, hBz⟩
        case measure => simp [intOf]; omega
    · have hk2 : k = l.length := by omega
      rw [hk2, List.take_length] at hown
      have hlen := hids_len (hitB W) l l.length
      rw [List.take_length] at hlen
      have hso := psort_any wl wr wl.heap.size _ _ hB hB.size hown (by omega)
      rw [crs7_sorted] at hso
      have HSO := Lib.hid hso
      rw [hk2]
      clear hk hk2 hown hso hlt hlen
      go_wp2_with (first
        | (go_at_call 54; (with_reducible refine HSO.out.mono ?_); rintro e w8 ⟨rfl, hco⟩; have HCO := Lib.hid hco; clear hco HSO)
        | (go_at_call 55; (with_reducible refine HCO.out.mono ?_); rintro e w9 ⟨v, rfl, hi9, hb9⟩; have HI9 := Lib.hid hi9; clear hi9 HCO))
      go_ret
      exact ⟨_, rfl, HI9.out, HB0.out.trans (hb9.mono HB0.out.size)⟩
end Go.Proofs.Ytmkepmjdckdpgaa
/- slices.Clone, slices.Sort and slices.Compact at []int: a copy of one's own, in place, each once; nothing else is touched. FOR ALL LATER STAGES. -/
namespace Go.Proofs.Ytmkepmjdckdpgaa
open Go.RowKit Go.Sort

theorem only_row {blk off n : Nat} {w : World} {d : Array Int} {os : Array Obj} : Only (fun k => k = blk) w (grow (putRow (Value.int .i64) (Sort.ahead w n) blk off d) os) := by
  refine ⟨rfl, rfl, rfl, by simp, fun k hk hne => ?_⟩
  rw [heap_grow_old _ _ (by simp; omega)]
  have : blk ≠ k := fun e => hne e.symm
  simp [putRow, mapBlock, Sort.ahead, Array.getElem?_modify, this]
theorem only_row' {blk off n : Nat} {w : World} {d : Array Int} : Only (fun k => k = blk) w (putRow (Value.int .i64) (Sort.ahead w n) blk off d) := by
  have := only_row (w := w) (n := n) (blk := blk) (off := off) (d := d) (os := #[])
  rwa [grow_empty] at this
/-- sorted, and each once: in place -/
theorem sortI_any (w : World) (B : Nat) (v : Value) (l : List Int) (h : OwnI w B v l) (hl : l.length ≤ 1000000) :
    Calls Try.prog 54 #[v] w fun e w' => e = .returned (.tuple #[]) ∧ IntsAt w' v (l.mergeSort fun x y => decide (x ≤ y)) ∧ Only (fun k => v.ownBlock = some k) w w' ∧
      Calls Try.prog 55 #[v] w' fun e w'' => ∃ u, e = .returned u ∧ IntsAt w'' u (Lib.compact (l.mergeSort fun x y => decide (x ≤ y))) ∧ u.ownBlock = v.ownBlock ∧ Only (fun k => v.ownBlock = some k) w w'' := by
  by_cases h0 : l.length = 0
  · obtain ⟨p, c, rfl⟩ := h.ints.form
    have hnil : l = [] := List.eq_nil_of_length_eq_zero h0
    have hs : (l.mergeSort fun x y => decide (x ≤ y)) = [] := List.eq_nil_of_length_eq_zero (by rw [List.length_mergeSort]; exact h0)
    have hc : Lib.compact (l.mergeSort fun x y => decide (x ≤ y)) = [] := List.eq_nil_of_length_eq_zero (by have h1 := Lib.compact_length_le (l.mergeSort fun x y => decide (x ≤ y)); rw [List.length_mergeSort] at h1; omega)
    have hi := h.ints
    rw [h0, hc, hs]
    rw [hnil] at hi
    refine (Try.slices_Sort_int_none p c w).mono ?_
    rintro e w1 ⟨rfl, rfl⟩
    refine ⟨rfl, hi, Only.refl _ _, (Try.slices_Compact_int_empty p c w1).mono ?_⟩
    rintro e w2 ⟨rfl, rfl⟩
    exact ⟨_, rfl, hi, rfl, Only.refl _ _⟩
  · obtain ⟨g, cap, rfl, hBg, hg, hcap, hH⟩ := h.holds (by omega)
    have hlen : (l.mergeSort fun x y => decide (x ≤ y)).length = l.length := List.length_mergeSort l
    have hgs : ∀ k, k = g → (Value.slice (some ⟨g, 0, none⟩) l.length cap).ownBlock = some k := fun k e => by rw [e]; rfl
    refine (Try.slices_Sort_int g 0 cap l w hH hg (by omega)).mono ?_
    rintro e w1 ⟨rfl, n, os, rfl⟩
    have hS := holds_sorted (n := n) (os := os) hH hg
    have hC := Try.slices_Compact_int g 0 cap (l.mergeSort fun x y => decide (x ≤ y)) _ hS (by omega) (by omega)
    have hI := fun q => ints_compact (n := n) (q := q) (os := os) hH hg hcap
    have hO := only_row (w := w) (n := n) (blk := g) (off := 0) (d := (l.mergeSort fun x y => decide (x ≤ y)).toArray) (os := os)
    refine ⟨rfl, ?_, hO.mono hgs, ?_⟩
    · have := ints_of_holds (zs := l.mergeSort fun x y => decide (x ≤ y)) (cap := cap) hS (Nat.lt_of_lt_of_le hg hO.size) (fun j x hj => by
        have hjl := (List.getElem?_eq_some_iff.1 hj).1
        refine ⟨by simpa using hjl, ?_⟩
        rw [getElem!_pos _ _ (by simpa using hjl)]
        rw [List.getElem?_eq_getElem hjl] at hj
        simpa using Option.some.inj hj) (by omega)
      rwa [hlen] at this
    · rw [hlen] at hC
      refine hC.mono ?_
      rintro e w2 ⟨rfl, q, rfl⟩
      refine ⟨_, rfl, ?_, rfl, (hO.trans only_row').mono hgs⟩
      have := hI q
      rw [hlen] at this
      exact this

set_option maxHeartbeats 1000000 in
/-- a copy of one's own -/
theorem cloneI_any (va : Value) (l : List Int) (w : World) (h : IntsAt w va l) (hn : l.length ≤ 1000000) :
    Calls Try.prog 33 #[va] w fun e w' => ∃ v', e = .returned v' ∧ OwnI w' w.heap.size v' l ∧ Below w.heap.size w w' := by
  obtain ⟨a, c, rfl⟩ := h.form
  cases a with
  | none =>
    have hl : l = [] := by
      obtain ⟨a, cap, e, hc, hx⟩ := h
      cases e
      cases l with
      | nil => rfl
      | cons x t => obtain ⟨g, o, e, _⟩ := hx (by simp); cases e
    subst hl
    have he : (binOp BinOp.eql 25 (.slice none 0 c) (.slice none 0 0)).run Try.prog w = .ok (.bool true) w := by kernel_rfl
    clear h
    go_enter Try.func33, Try.ntmps33
    go_wp2
    go_ret
    exact ⟨_, rfl, OwnR.nil _ _ _ _ _, Below.refl _ _⟩
  | some g =>
    obtain ⟨i0, hi, hz0, hz1, hz2⟩ := info_parts info_int
    have hal := (Below.refl w.heap.size w).alloc (Nat.le_refl _) (.cells #[] 3)
    have HR := Lib.hid (RowsAt.kept h.rows hal)
    have HO := Lib.hid (OwnR.empty w 1 csI 3 w.heap.size rfl)
    have HB := Lib.hid hal
    have he : (binOp BinOp.eql 25 (.slice (some g) l.length c) (.slice none 0 0)).run Try.prog w = .ok (.bool false) w := by kernel_rfl
    clear h hal
    go_enter Try.func33, Try.ntmps33
    go_wp2_with (at_builtin; refine wpList_append_rows csI_len (by decide) csI_one13 rfl _ _ 25 rfl w.heap.size 3 i0 (.int .i64 0) 8 Try.underlying25 hi hz0 hz1 hz2 rfl _ _ rfl HO.out _ l rfl HR.out (by unfold maxLen; simp; omega) (by simp; omega) HB.out.size ?_; intro v2 w2 o2 g2; have HO2 := Lib.hid o2; have HB2 := Lib.hid (OwnR.below HO.out HB.out HB.out.size g2); clear o2 g2)
    go_ret
    exact ⟨_, rfl, HO2.out, HB2.out⟩
end Go.Proofs.Ytmkepmjdckdpgaa
