/- Texts of this proof, joined: Shelf; SortI; ConcatI; GraphRefB; IdLaw; IsF; WpA. -/
import Derived.Test.YtjmgokjljmmmgaaGreatBun9
import Derived.Shelf.Small.Bits
import Derived.Shelf.Small.Wraps
import Derived.Shelf.Strconv.Itoa0
import Derived.Shelf.Sort.Plain
import Derived.Ground.Names2Prog
import Derived.Shelf.Slices.Clone
import Derived.Shelf.Slices.CompactI
import Derived.Shelf.Slices.SearchI
import Derived.Shelf.Slices.Cells
import Derived.Shelf.Slices.In.SortNone
import Derived.Shelf.Slices.Empties
import Derived.Test.YtjmgokjljmmmgaaGreatProg
import Derived.Lib.AppendZerosOnto
import Derived.Deep.DeepCutAuto
/-
  DERIVED: THE SHELF's CONTRACTS AT THIS DUMP, IN PLAIN WORDS (tools/lay-plain.mjs out of 'TryzShelf.lean', which tools/lay-shelf.mjs wrote): THE SAME DECLARATIONS UNDER THE SAME NAMES: 'import', 'namespace', 'open', 'def', 'theorem' AND NOTHING ELSE: no command of the shelf's: FOR A HAND-IN. Each laying: the table of numbers ('.._ren') and one theorem, a field a fact of the dump's own or the kernel's comparison; each contract: ONE APPLICATION.
-/
namespace Go.Proofs
open Go.Shelf
def Tryz.lays128_ren : Go.Shelf.Ren := ⟨fun | 128 => 105 | n => n, fun | 51 => 140 | 3 => 3 | 4 => 4 | 46 => 125 | 5 => 5 | 9 => 9 | n => n, fun | n => n⟩
theorem Tryz.lays128 : Go.Proofs.Lays.n128 Tryz.prog Tryz.lays128_ren := {
  mixed := by kernel_rfl
  f128 := Tryz.func105.trans (congrArg some (by kernel_rfl))
  t3 := Tryz.underlying3
  a3 := Tryz.isAgg3
  z3 := Tryz.sizeOf3
  v3 := Tryz.zeroValue3
  t4 := Tryz.underlying4
  a4 := Tryz.isAgg4
  z4 := Tryz.sizeOf4
  v4 := Tryz.zeroValue4
  t5 := Tryz.underlying5
  a5 := Tryz.isAgg5
  z5 := Tryz.sizeOf5
  v5 := Tryz.zeroValue5
  t9 := Tryz.underlying9
  a9 := Tryz.isAgg9
  z9 := Tryz.sizeOf9
  v9 := Tryz.zeroValue9
  t46 := Tryz.underlying125
  a46 := Tryz.isAgg125
  z46 := Tryz.sizeOf125
  v46 := Tryz.zeroValue125
  t51 := Tryz.underlying140
  a51 := Tryz.isAgg140
  z51 := Tryz.sizeOf140
  v51 := Tryz.zeroValue140 }
/-- bits.Len32: "Len32 returns the minimum number of bits required to represent x; the result is 0 for x == 0.": IT RETURNS 'Lib.bitLen x'; the world is as it was. ('h0', 'h1': x is a uint32.) (LAID: no walk: one application.) -/
theorem Tryz.bits_Len32 (x : Int) (w : World) (h0 : 0 ≤ x) (h1 : x ≤ 4294967295) :
    Calls Tryz.prog 105 #[.int .u32 x] w fun e w' => e = .returned (.int .i64 (Lib.bitLen x.toNat)) ∧ w' = w := Any.bits_Len32 Tryz.lays128 x w h0 h1
def Tryz.lays125_ren : Go.Shelf.Ren := ⟨fun | 125 => 85 | 128 => 105 | 129 => 106 | n => n, fun | 46 => 125 | 3 => 3 | 51 => 140 | 53 => 142 | 4 => 4 | 5 => 5 | 9 => 9 | n => n, fun | n => n⟩
theorem Tryz.lays125 : Go.Proofs.Lays.n125 Tryz.prog Tryz.lays125_ren := {
  mixed := by kernel_rfl
  f125 := Tryz.func85.trans (congrArg some (by kernel_rfl))
  f128 := Tryz.func105.trans (congrArg some (by kernel_rfl))
  f129 := Tryz.func106.trans (congrArg some (by kernel_rfl))
  t3 := Tryz.underlying3
  a3 := Tryz.isAgg3
  z3 := Tryz.sizeOf3
  v3 := Tryz.zeroValue3
  t4 := Tryz.underlying4
  a4 := Tryz.isAgg4
  z4 := Tryz.sizeOf4
  v4 := Tryz.zeroValue4
  t5 := Tryz.underlying5
  a5 := Tryz.isAgg5
  z5 := Tryz.sizeOf5
  v5 := Tryz.zeroValue5
  t9 := Tryz.underlying9
  a9 := Tryz.isAgg9
  z9 := Tryz.sizeOf9
  v9 := Tryz.zeroValue9
  t46 := Tryz.underlying125
  a46 := Tryz.isAgg125
  z46 := Tryz.sizeOf125
  v46 := Tryz.zeroValue125
  t51 := Tryz.underlying140
  a51 := Tryz.isAgg140
  z51 := Tryz.sizeOf140
  v51 := Tryz.zeroValue140
  t53 := Tryz.underlying142
  a53 := Tryz.isAgg142
  z53 := Tryz.sizeOf142
  v53 := Tryz.zeroValue142 }
/-- bits.Len: "Len returns the minimum number of bits required to represent x; the result is 0 for x == 0.": IT RETURNS 'Lib.bitLen x'; the world is as it was. (A uint has 64 bits in the model.) ITS CALLEE bits.Len64 IS MET BY ITS OWN CONTRACT OFF THE SHELF (lay that first). (LAID: no walk: one application.) -/
theorem Tryz.bits_Len (x : Int) (w : World) (h0 : 0 ≤ x) (h1 : x ≤ 18446744073709551615) :
    Calls Tryz.prog 85 #[.int .u64 x] w fun e w' => e = .returned (.int .i64 (Lib.bitLen x.toNat)) ∧ w' = w := Any.bits_Len Tryz.lays125 x w h0 h1
def Tryz.lays215_ren : Go.Shelf.Ren := ⟨fun | 215 => 109 | n => n, fun | 3 => 3 | 4 => 4 | n => n, fun | n => n⟩
theorem Tryz.lays215 : Go.Proofs.Lays.n215 Tryz.prog Tryz.lays215_ren := {
  mixed := by kernel_rfl
  f215 := Tryz.func109.trans (congrArg some (by kernel_rfl))
  t3 := Tryz.underlying3
  a3 := Tryz.isAgg3
  z3 := Tryz.sizeOf3
  v3 := Tryz.zeroValue3
  t4 := Tryz.underlying4
  a4 := Tryz.isAgg4
  z4 := Tryz.sizeOf4
  v4 := Tryz.zeroValue4 }
open Go.RowKit in
/-- cmp.isNaN at int: 'x != x': false. (LAID: no walk: one application.) -/
theorem Tryz.cmp_isNaN_int (x : Int) (w : World) :
    Calls Tryz.prog 109 #[.int .i64 x] w fun e w' => e = .returned (.bool false) ∧ w' = w := Any.cmp_isNaN_int Tryz.lays215 x w
def Tryz.lays122_ren : Go.Shelf.Ren := ⟨fun | 122 => 126 | 215 => 109 | n => n, fun | 3 => 3 | 4 => 4 | n => n, fun | n => n⟩
theorem Tryz.lays122 : Go.Proofs.Lays.n122 Tryz.prog Tryz.lays122_ren := {
  mixed := by kernel_rfl
  f122 := Tryz.func126.trans (congrArg some (by kernel_rfl))
  f215 := Tryz.func109.trans (congrArg some (by kernel_rfl))
  t3 := Tryz.underlying3
  a3 := Tryz.isAgg3
  z3 := Tryz.sizeOf3
  v3 := Tryz.zeroValue3
  t4 := Tryz.underlying4
  a4 := Tryz.isAgg4
  z4 := Tryz.sizeOf4
  v4 := Tryz.zeroValue4 }
open Go.RowKit in
/-- cmp.Compare at int: "Compare returns -1 if x is less than y, 0 if x equals y, +1 if x is greater than y.": IT RETURNS 'Lib.compareInt x y'; the world is as it was. (LAID: no walk: one application.) -/
theorem Tryz.cmp_Compare_int (x y : Int) (w : World) :
    Calls Tryz.prog 126 #[.int .i64 x, .int .i64 y] w fun e w' => e = .returned (.int .i64 (Lib.compareInt x y)) ∧ w' = w := Any.cmp_Compare_int Tryz.lays122 x y w
def Tryz.lays129_ren : Go.Shelf.Ren := ⟨fun | 129 => 106 | n => n, fun | 53 => 142 | 3 => 3 | 4 => 4 | 46 => 125 | 5 => 5 | 9 => 9 | n => n, fun | n => n⟩
theorem Tryz.lays129 : Go.Proofs.Lays.n129 Tryz.prog Tryz.lays129_ren := {
  mixed := by kernel_rfl
  f129 := Tryz.func106.trans (congrArg some (by kernel_rfl))
  t3 := Tryz.underlying3
  a3 := Tryz.isAgg3
  z3 := Tryz.sizeOf3
  v3 := Tryz.zeroValue3
  t4 := Tryz.underlying4
  a4 := Tryz.isAgg4
  z4 := Tryz.sizeOf4
  v4 := Tryz.zeroValue4
  t5 := Tryz.underlying5
  a5 := Tryz.isAgg5
  z5 := Tryz.sizeOf5
  v5 := Tryz.zeroValue5
  t9 := Tryz.underlying9
  a9 := Tryz.isAgg9
  z9 := Tryz.sizeOf9
  v9 := Tryz.zeroValue9
  t46 := Tryz.underlying125
  a46 := Tryz.isAgg125
  z46 := Tryz.sizeOf125
  v46 := Tryz.zeroValue125
  t53 := Tryz.underlying142
  a53 := Tryz.isAgg142
  z53 := Tryz.sizeOf142
  v53 := Tryz.zeroValue142 }
/-- bits.Len64: "Len64 returns the minimum number of bits required to represent x; the result is 0 for x == 0.": IT RETURNS 'Lib.bitLen x'; the world is as it was. ('h0', 'h1': x is a uint64.) (LAID: no walk: one application.) -/
theorem Tryz.bits_Len64 (x : Int) (w : World) (h0 : 0 ≤ x) (h1 : x ≤ 18446744073709551615) :
    Calls Tryz.prog 106 #[.int .u64 x] w fun e w' => e = .returned (.int .i64 (Lib.bitLen x.toNat)) ∧ w' = w := Any.bits_Len64 Tryz.lays129 x w h0 h1
def Tryz.lays189_ren : Go.Shelf.Ren := ⟨fun | 189 => 71 | 125 => 85 | 257 => 84 | 128 => 105 | 129 => 106 | 294 => 97 | 295 => 98 | 296 => 99 | 297 => 100 | 298 => 101 | 299 => 102 | 216 => 90 | 300 => 103 | 301 => 104 | 328 => 113 | 329 => 114 | 330 => 115 | 331 => 116 | 332 => 117 | 215 => 109 | 343 => 121 | n => n, fun | 28 => 22 | 3 => 3 | 46 => 125 | 0 => 0 | 51 => 140 | 53 => 142 | 4 => 4 | 183 => 134 | 182 => 133 | 131 => 71 | 5 => 5 | 9 => 9 | 218 => 146 | 222 => 150 | 228 => 153 | 229 => 154 | n => n, fun | n => n⟩
theorem Tryz.lays189 : Go.Proofs.Lays.n189 Tryz.prog Tryz.lays189_ren := {
  mixed := by kernel_rfl
  f125 := Tryz.func85.trans (congrArg some (by kernel_rfl))
  f128 := Tryz.func105.trans (congrArg some (by kernel_rfl))
  f129 := Tryz.func106.trans (congrArg some (by kernel_rfl))
  f189 := Tryz.func71.trans (congrArg some (by kernel_rfl))
  f215 := Tryz.func109.trans (congrArg some (by kernel_rfl))
  f216 := Tryz.func90.trans (congrArg some (by kernel_rfl))
  f257 := Tryz.func84.trans (congrArg some (by kernel_rfl))
  f294 := Tryz.func97.trans (congrArg some (by kernel_rfl))
  f295 := Tryz.func98.trans (congrArg some (by kernel_rfl))
  f296 := Tryz.func99.trans (congrArg some (by kernel_rfl))
  f297 := Tryz.func100.trans (congrArg some (by kernel_rfl))
  f298 := Tryz.func101.trans (congrArg some (by kernel_rfl))
  f299 := Tryz.func102.trans (congrArg some (by kernel_rfl))
  f300 := Tryz.func103.trans (congrArg some (by kernel_rfl))
  f301 := Tryz.func104.trans (congrArg some (by kernel_rfl))
  f328 := Tryz.func113.trans (congrArg some (by kernel_rfl))
  f329 := Tryz.func114.trans (congrArg some (by kernel_rfl))
  f330 := Tryz.func115.trans (congrArg some (by kernel_rfl))
  f331 := Tryz.func116.trans (congrArg some (by kernel_rfl))
  f332 := Tryz.func117.trans (congrArg some (by kernel_rfl))
  f343 := Tryz.func121.trans (congrArg some (by kernel_rfl))
  t0 := Tryz.underlying0
  a0 := Tryz.isAgg0
  z0 := Tryz.sizeOf0
  v0 := Tryz.zeroValue0
  t3 := Tryz.underlying3
  a3 := Tryz.isAgg3
  z3 := Tryz.sizeOf3
  v3 := Tryz.zeroValue3
  t4 := Tryz.underlying4
  a4 := Tryz.isAgg4
  z4 := Tryz.sizeOf4
  v4 := Tryz.zeroValue4
  t5 := Tryz.underlying5
  a5 := Tryz.isAgg5
  z5 := Tryz.sizeOf5
  v5 := Tryz.zeroValue5
  t9 := Tryz.underlying9
  a9 := Tryz.isAgg9
  z9 := Tryz.sizeOf9
  v9 := Tryz.zeroValue9
  t28 := Tryz.underlying22
  a28 := Tryz.isAgg22
  z28 := Tryz.sizeOf22
  v28 := Tryz.zeroValue22
  t46 := Tryz.underlying125
  a46 := Tryz.isAgg125
  z46 := Tryz.sizeOf125
  v46 := Tryz.zeroValue125
  t51 := Tryz.underlying140
  a51 := Tryz.isAgg140
  z51 := Tryz.sizeOf140
  v51 := Tryz.zeroValue140
  t53 := Tryz.underlying142
  a53 := Tryz.isAgg142
  z53 := Tryz.sizeOf142
  v53 := Tryz.zeroValue142
  t131 := Tryz.underlying71
  a131 := Tryz.isAgg71
  z131 := Tryz.sizeOf71
  v131 := Tryz.zeroValue71
  t182 := Tryz.underlying133
  a182 := Tryz.isAgg133
  z182 := Tryz.sizeOf133
  v182 := Tryz.zeroValue133
  t183 := Tryz.underlying134
  a183 := Tryz.isAgg134
  z183 := Tryz.sizeOf134
  v183 := Tryz.zeroValue134
  t218 := Tryz.underlying146
  a218 := Tryz.isAgg146
  z218 := Tryz.sizeOf146
  v218 := Tryz.zeroValue146
  t222 := Tryz.underlying150
  a222 := Tryz.isAgg150
  z222 := Tryz.sizeOf150
  v222 := Tryz.zeroValue150
  t228 := Tryz.underlying153
  a228 := Tryz.isAgg153
  z228 := Tryz.sizeOf153
  v228 := Tryz.zeroValue153
  t229 := Tryz.underlying154
  a229 := Tryz.isAgg154
  z229 := Tryz.sizeOf154
  v229 := Tryz.zeroValue154 }
open Go.Sort Go.RowKit in
theorem Tryz.slices_Sort_int (blk off cap : Nat) (zs : List Int) (w : World) (hH : Holds (Value.int .i64) w blk off zs.toArray) (hblk : blk < w.heap.size) (hsz : zs.length < 4611686018427387904) :
    Calls Tryz.prog 71 #[.slice (some ⟨blk, off, none⟩) zs.length cap] w fun e w' =>
      e = .returned (.tuple #[]) ∧ ∃ n os, w' = grow (putRow (Value.int .i64) (Sort.ahead w n) blk off (zs.mergeSort fun x y => decide (x ≤ y)).toArray) os := Any.slices_Sort_int Tryz.lays189 blk off cap zs w hH hblk hsz
def Tryz.laysNm215_ren : Go.Shelf.Ren := ⟨fun | 15 => 26 | n => n, fun | 22 => 22 | 3 => 3 | 4 => 4 | n => n, fun | n => n⟩
theorem Tryz.laysNm215 : Go.Proofs.Lays2.n15 Tryz.prog Tryz.laysNm215_ren := {
  mixed := by kernel_rfl
  f15 := Tryz.func26.trans (congrArg some (by kernel_rfl))
  t3 := Tryz.underlying3
  a3 := Tryz.isAgg3
  z3 := Tryz.sizeOf3
  v3 := Tryz.zeroValue3
  t4 := Tryz.underlying4
  a4 := Tryz.isAgg4
  z4 := Tryz.sizeOf4
  v4 := Tryz.zeroValue4
  t22 := Tryz.underlying22
  a22 := Tryz.isAgg22
  z22 := Tryz.sizeOf22
  v22 := Tryz.zeroValue22
  i3 := by kernel_rfl }
open Go.RowKit Go.Lib in
/-- slices.Clone at []int: "Clone returns a copy of the slice. The elements are copied using assignment, so this is a shallow clone. The result may have additional unused capacity. The result preserves the nilness of s.": OF A SLICE THAT IS NOT nil IT RETURNS A SLICE THAT IS NOT nil, OF THE SAME ELEMENTS, IN MEMORY OF THE CALL's OWN: in the how-to's words (6f): 'w'.ownsRow B e 1 v' n cells': v' begins at the head of a row among the blocks from B on (B: the heap's size at the call), not frozen, whose first cells are the elements · 'Below B w w'': below B all is as it was. The capacity is whatever the run-time gives. 'zs': what the cells behind the slice's address hold; 'zs.take n': its elements. (LAID: no walk: one application.) -/
theorem Tryz.slices_Clone_int (b off n c : Nat) (zs : List Int) (w : World) (hz : n ≤ zs.length) (hbig : n * 8 ≤ 140737488355328) (hc : ∀ j, j < zs.length → w.cell? ⟨b, off + j, none⟩ = some (.int .i64 (zs.getD j 0))) :
    Calls Tryz.prog 26 #[.slice (some ⟨b, off, none⟩) n c] w fun e w' => ∃ v', e = .returned v' ∧ w'.ownsRow w.heap.size 3 1 v' n ((zs.take n).map (Value.int .i64)) ∧ v' ≠ .slice none 0 0 ∧ Below w.heap.size w w' := Any.slices_Clone_int Tryz.laysNm215 b off n c zs w hz hbig hc
open Go.RowKit Go.Lib in
/-- The same at nil: nil comes back; the world is as it was. (LAID: no walk: one application.) -/
theorem Tryz.slices_Clone_int_nil (n c : Nat) (w : World) :
    Calls Tryz.prog 26 #[.slice none n c] w fun e w' => e = .returned (.slice none 0 0) ∧ w' = w := Any.slices_Clone_int_nil Tryz.laysNm215 n c w
open Go.RowKit Go.Lib in
/-- The same at a slice of length 0 that is not nil, WHATEVER ITS ADDRESS (no cell is asked for): a slice that is not nil and owns nothing comes back. (LAID: no walk: one application.) -/
theorem Tryz.slices_Clone_int_zero (a : Addr) (c : Nat) (w : World) :
    Calls Tryz.prog 26 #[.slice (some a) 0 c] w fun e w' => ∃ v', e = .returned v' ∧ w'.ownsRow w.heap.size 3 1 v' 0 [] ∧ v' ≠ .slice none 0 0 ∧ Below w.heap.size w w' := Any.slices_Clone_int_zero Tryz.laysNm215 a c w
def Tryz.laysNm220_ren : Go.Shelf.Ren := ⟨fun | 20 => 72 | n => n, fun | 22 => 22 | 3 => 3 | 4 => 4 | 0 => 0 | n => n, fun | n => n⟩
theorem Tryz.laysNm220 : Go.Proofs.Lays2.n20 Tryz.prog Tryz.laysNm220_ren := {
  mixed := by kernel_rfl
  f20 := Tryz.func72.trans (congrArg some (by kernel_rfl))
  t0 := Tryz.underlying0
  a0 := Tryz.isAgg0
  z0 := Tryz.sizeOf0
  v0 := Tryz.zeroValue0
  t3 := Tryz.underlying3
  a3 := Tryz.isAgg3
  z3 := Tryz.sizeOf3
  v3 := Tryz.zeroValue3
  t4 := Tryz.underlying4
  a4 := Tryz.isAgg4
  z4 := Tryz.sizeOf4
  v4 := Tryz.zeroValue4
  t22 := Tryz.underlying22
  a22 := Tryz.isAgg22
  z22 := Tryz.sizeOf22
  v22 := Tryz.zeroValue22
  i3 := by kernel_rfl }
open Go.RowKit Go.Lib Go.Sort in
/-- slices.Compact at []int, over an array: the library's two loops are walked. (LAID: no walk: one application.) -/
theorem Tryz.slices_Compact_int_arr (blk off cap : Nat) (d : Array Int) (w : World) (hH : Holds encI w blk off d) (hsz : d.size ≤ 9223372036854775807) (hcap : d.size ≤ cap) :
    Calls Tryz.prog 72 #[.slice (some ⟨blk, off, none⟩) d.size cap] w fun e w' => e = .returned (.slice (some ⟨blk, off, none⟩) (compactUpTo d d.size).length cap) ∧ ∃ q, w' = putRow encI (Sort.ahead w q) blk off (compactUpTo d d.size ++ List.replicate (d.size - (compactUpTo d d.size).length) 0).toArray := Any.slices_Compact_int_arr Tryz.laysNm220 blk off cap d w hH hsz hcap
open Go.RowKit Go.Lib Go.Sort in
/-- slices.Compact at []int: "Compact replaces consecutive runs of equal elements with a single copy. This is like the uniq command found on Unix. Compact modifies the contents of the slice s and returns the modified slice, which may have a smaller length. Compact zeroes the elements between the new length and the original length. The result preserves the nilness of s.": IT RETURNS THE SLICE CUT TO 'Lib.compact zs'; ITS CELLS HOLD 'Lib.compact zs', THEN ZERO VALUES up to the old length; all else is as it was, but for the count of draws. IN THE WORDS OF slices.Sort's CONTRACT ('Holds', 'putRow'): so the everyday 'slices.Sort(xs); xs = slices.Compact(xs)' goes from the one contract to the other. It asks 'zs.length ≤ cap' (every slice's: the reslicing 's[:k]' looks at it). Length 0, nil: '.._empty'. (LAID: no walk: one application.) -/
theorem Tryz.slices_Compact_int (blk off cap : Nat) (zs : List Int) (w : World) (hH : Holds (Value.int .i64) w blk off zs.toArray) (hsz : zs.length ≤ 9223372036854775807) (hcap : zs.length ≤ cap) :
    Calls Tryz.prog 72 #[.slice (some ⟨blk, off, none⟩) zs.length cap] w fun e w' => e = .returned (.slice (some ⟨blk, off, none⟩) (Lib.compact zs).length cap) ∧ ∃ q, w' = putRow (Value.int .i64) (Sort.ahead w q) blk off (Lib.compact zs ++ List.replicate (zs.length - (Lib.compact zs).length) 0).toArray := Any.slices_Compact_int Tryz.laysNm220 blk off cap zs w hH hsz hcap
open Go.RowKit Go.Lib Go.Sort in
/-- The same at a slice of length 0, a nil one too: it comes back as it is. (LAID: no walk: one application.) -/
theorem Tryz.slices_Compact_int_empty (a : Option Addr) (cap : Nat) (w : World) :
    Calls Tryz.prog 72 #[.slice a 0 cap] w fun e w' => e = .returned (.slice a 0 cap) ∧ w' = w := Any.slices_Compact_int_empty Tryz.laysNm220 a cap w
def Tryz.laysNm237_ren : Go.Shelf.Ren := ⟨fun | 37 => 109 | n => n, fun | 3 => 3 | 4 => 4 | n => n, fun | n => n⟩
theorem Tryz.laysNm237 : Go.Proofs.Lays2.n37 Tryz.prog Tryz.laysNm237_ren := {
  mixed := by kernel_rfl
  f37 := Tryz.func109.trans (congrArg some (by kernel_rfl))
  t3 := Tryz.underlying3
  a3 := Tryz.isAgg3
  z3 := Tryz.sizeOf3
  v3 := Tryz.zeroValue3
  t4 := Tryz.underlying4
  a4 := Tryz.isAgg4
  z4 := Tryz.sizeOf4
  v4 := Tryz.zeroValue4 }
open Go.RowKit Go.Lib in
/-- cmp.isNaN[int]: 'x != x': false. (LAID: no walk: one application.) -/
theorem Tryz.cmp_isNaN_int2 (x : Int) (w : World) :
    Calls Tryz.prog 109 #[.int .i64 x] w fun e w' => e = .returned (.bool false) ∧ w' = w := Any.cmp_isNaN_int2 Tryz.laysNm237 x w
def Tryz.laysNm232_ren : Go.Shelf.Ren := ⟨fun | 32 => 91 | n => n, fun | 3 => 3 | 4 => 4 | n => n, fun | n => n⟩
theorem Tryz.laysNm232 : Go.Proofs.Lays2.n32 Tryz.prog Tryz.laysNm232_ren := {
  mixed := by kernel_rfl
  f32 := Tryz.func91.trans (congrArg some (by kernel_rfl))
  t3 := Tryz.underlying3
  a3 := Tryz.isAgg3
  z3 := Tryz.sizeOf3
  v3 := Tryz.zeroValue3
  t4 := Tryz.underlying4
  a4 := Tryz.isAgg4
  z4 := Tryz.sizeOf4
  v4 := Tryz.zeroValue4 }
open Go.RowKit Go.Lib in
/-- slices.isNaN[int]: 'x != x': false. (LAID: no walk: one application.) -/
theorem Tryz.slices_isNaN_int2 (x : Int) (w : World) :
    Calls Tryz.prog 91 #[.int .i64 x] w fun e w' => e = .returned (.bool false) ∧ w' = w := Any.slices_isNaN_int2 Tryz.laysNm232 x w
def Tryz.laysNm231_ren : Go.Shelf.Ren := ⟨fun | 31 => 90 | 37 => 109 | n => n, fun | 3 => 3 | 4 => 4 | n => n, fun | n => n⟩
theorem Tryz.laysNm231 : Go.Proofs.Lays2.n31 Tryz.prog Tryz.laysNm231_ren := {
  mixed := by kernel_rfl
  f31 := Tryz.func90.trans (congrArg some (by kernel_rfl))
  f37 := Tryz.func109.trans (congrArg some (by kernel_rfl))
  t3 := Tryz.underlying3
  a3 := Tryz.isAgg3
  z3 := Tryz.sizeOf3
  v3 := Tryz.zeroValue3
  t4 := Tryz.underlying4
  a4 := Tryz.isAgg4
  z4 := Tryz.sizeOf4
  v4 := Tryz.zeroValue4 }
open Go.RowKit Go.Lib in
/-- cmp.Less[int]: "Less reports whether x is less than y.": 'x < y'; the world is as it was. (LAID: no walk: one application.) -/
theorem Tryz.cmp_Less_int2 (x y : Int) (w : World) :
    Calls Tryz.prog 90 #[.int .i64 x, .int .i64 y] w fun e w' => e = .returned (.bool (decide (x < y))) ∧ w' = w := Any.cmp_Less_int2 Tryz.laysNm231 x y w
def Tryz.laysNm225_ren : Go.Shelf.Ren := ⟨fun | 25 => 77 | 31 => 90 | 32 => 91 | 37 => 109 | n => n, fun | 22 => 22 | 3 => 3 | 4 => 4 | 40 => 125 | 0 => 0 | n => n, fun | n => n⟩
theorem Tryz.laysNm225 : Go.Proofs.Lays2.n25 Tryz.prog Tryz.laysNm225_ren := {
  mixed := by kernel_rfl
  f25 := Tryz.func77.trans (congrArg some (by kernel_rfl))
  f31 := Tryz.func90.trans (congrArg some (by kernel_rfl))
  f32 := Tryz.func91.trans (congrArg some (by kernel_rfl))
  f37 := Tryz.func109.trans (congrArg some (by kernel_rfl))
  t0 := Tryz.underlying0
  a0 := Tryz.isAgg0
  z0 := Tryz.sizeOf0
  v0 := Tryz.zeroValue0
  t3 := Tryz.underlying3
  a3 := Tryz.isAgg3
  z3 := Tryz.sizeOf3
  v3 := Tryz.zeroValue3
  t4 := Tryz.underlying4
  a4 := Tryz.isAgg4
  z4 := Tryz.sizeOf4
  v4 := Tryz.zeroValue4
  t22 := Tryz.underlying22
  a22 := Tryz.isAgg22
  z22 := Tryz.sizeOf22
  v22 := Tryz.zeroValue22
  t40 := Tryz.underlying125
  a40 := Tryz.isAgg125
  z40 := Tryz.sizeOf125
  v40 := Tryz.zeroValue125 }
open Go.RowKit Go.Lib in
/-- slices.BinarySearch at []int: "BinarySearch searches for target in a sorted slice and returns the earliest position where target is found, or the position where target would appear in the sort order; it also returns a bool saying whether the target is really found in the slice. The slice must be sorted in increasing order.": OF A SORTED SLICE IT RETURNS how many elements are less than the target, and whether the target is among the elements; the world is as it was but for the count of draws. 'zs': what the cells behind the slice's address hold; 'zs.take n': its elements. (Of a slice that is not sorted: no contract here.) (LAID: no walk: one application.) -/
theorem Tryz.slices_BinarySearch_int (b off n c : Nat) (zs : List Int) (x : Int) (w : World) (hz : n ≤ zs.length) (hbig : n < 4611686018427387904) (hc : ∀ j, j < zs.length → w.cell? ⟨b, off + j, none⟩ = some (.int .i64 (zs.getD j 0))) (hs : (zs.take n).Pairwise (· ≤ ·)) :
    Calls Tryz.prog 77 #[.slice (some ⟨b, off, none⟩) n c, .int .i64 x] w fun e w' => e = .returned (.tuple #[.int .i64 ((zs.take n).countP (· < x) : Nat), .bool ((zs.take n).contains x)]) ∧ ∃ q, w' = w.drewN q := Any.slices_BinarySearch_int Tryz.laysNm225 b off n c zs x w hz hbig hc hs
open Go.RowKit Go.Lib Go.Sort in
/-- slices.Compact at []int, of an argument: the slice cut to 'Lib.compact (elements)'; the n cells hold that, then zeros. (LAID: no walk: one application.) -/
theorem Tryz.slices_Compact_int_cells (b off n c : Nat) (zs : List Int) (w : World) (hz : n ≤ zs.length) (hbig : n ≤ 9223372036854775807) (hcap : n ≤ c) (hc : ∀ j, j < zs.length → w.cell? ⟨b, off + j, none⟩ = some (.int .i64 (zs.getD j 0))) (hf : ∀ j, j < n → w.frozen? ⟨b, off + j, none⟩ = false) :
    Calls Tryz.prog 72 #[.slice (some ⟨b, off, none⟩) n c] w fun e w' => e = .returned (.slice (some ⟨b, off, none⟩) (Lib.compact (zs.take n)).length c) ∧ ∃ q, w' = (w.drewN q).setCells b off ((Lib.compact (zs.take n) ++ List.replicate (n - (Lib.compact (zs.take n)).length) 0).map (Value.int .i64)) := Any.slices_Compact_int_cells Tryz.laysNm220 b off n c zs w hz hbig hcap hc hf
open Go.RowKit Go.Sort in
/-- .. and plain. (LAID: no walk: one application.) -/
theorem Tryz.slices_Sort_int_none (p : Option Addr) (cap : Nat) (w : World) :
    Calls Tryz.prog 71 #[.slice p 0 cap] w fun e w' => e = .returned (.tuple #[]) ∧ w' = w := Any.slices_Sort_int_none Tryz.lays189 p cap w
open Go.RowKit Go.Lib in
/-- slices.BinarySearch at []int of no element: position 0, not found; the world is as it was. (LAID: no walk: one application.) -/
theorem Tryz.slices_BinarySearch_int_empty (a : Option Addr) (c : Nat) (x : Int) (w : World) :
    Calls Tryz.prog 77 #[.slice a 0 c, .int .i64 x] w fun e w' => e = .returned (.tuple #[.int .i64 0, .bool false]) ∧ w' = w := Any.slices_BinarySearch_int_empty Tryz.laysNm225 a c x w
end Go.Proofs
/- slices.Clone, slices.Sort and slices.Compact at []int: a copy of one's own, in place, each once; nothing else is touched. FOR ALL LATER STAGES. -/
namespace Go.Proofs.YtjmgokjljmmmgaaGreat
open Go.RowKit Go.Sort

theorem only_row {blk off n : Nat} {w : World} {d : Array Int} {os : Array Obj} : Only (fun k => k = blk) w (grow (putRow (Value.int .i64) (Sort.ahead w n) blk off d) os) := by
  refine ⟨rfl, rfl, rfl, by simp, fun k hk hne => ?_⟩
  rw [heap_grow_old _ _ (by simp; omega)]
  have : blk ≠ k := fun e => hne e.symm
  simp [putRow, mapBlock, Sort.ahead, Array.getElem?_modify, this]
theorem only_row' {blk off n : Nat} {w : World} {d : Array Int} : Only (fun k => k = blk) w (putRow (Value.int .i64) (Sort.ahead w n) blk off d) := by
  have := only_row (w := w) (n := n) (blk := blk) (off := off) (d := d) (os := #[])
  rwa [grow_empty] at this
/-- sorted, and each once: in place -/
theorem sortI_any (w : World) (B : Nat) (v : Value) (l : List Int) (h : OwnI w B v l) (hl : l.length ≤ 1000000) :
    Calls Tryz.prog 71 #[v] w fun e w' => e = .returned (.tuple #[]) ∧ IntsAt w' v (l.mergeSort fun x y => decide (x ≤ y)) ∧ Only (fun k => v.ownBlock = some k) w w' ∧
      Calls Tryz.prog 72 #[v] w' fun e w'' => ∃ u, e = .returned u ∧ IntsAt w'' u (Lib.compact (l.mergeSort fun x y => decide (x ≤ y))) ∧ u.ownBlock = v.ownBlock ∧ Only (fun k => v.ownBlock = some k) w w'' := by
  by_cases h0 : l.length = 0
  · obtain ⟨p, c, rfl⟩ := h.ints.form
    have hnil : l = [] := List.eq_nil_of_length_eq_zero h0
    have hs : (l.mergeSort fun x y => decide (x ≤ y)) = [] := List.eq_nil_of_length_eq_zero (by rw [List.length_mergeSort]; exact h0)
    have hc : Lib.compact (l.mergeSort fun x y => decide (x ≤ y)) = [] := List.eq_nil_of_length_eq_zero (by have h1 := Lib.compact_length_le (l.mergeSort fun x y => decide (x ≤ y)); rw [List.length_mergeSort] at h1; omega)
    have hi := h.ints
    rw [h0, hc, hs]
    rw [hnil] at hi
    refine (Tryz.slices_Sort_int_none p c w).mono ?_
    rintro e w1 ⟨rfl, rfl⟩
    refine ⟨rfl, hi, Only.refl _ _, (Tryz.slices_Compact_int_empty p c w1).mono ?_⟩
    rintro e w2 ⟨rfl, rfl⟩
    exact ⟨_, rfl, hi, rfl, Only.refl _ _⟩
  · obtain ⟨g, cap, rfl, hBg, hg, hcap, hH⟩ := h.holds (by omega)
    have hlen : (l.mergeSort fun x y => decide (x ≤ y)).length = l.length := List.length_mergeSort l
    have hgs : ∀ k, k = g → (Value.slice (some ⟨g, 0, none⟩) l.length cap).ownBlock = some k := fun k e => by rw [e]; rfl
    refine (Tryz.slices_Sort_int g 0 cap l w hH hg (by omega)).mono ?_
    rintro e w1 ⟨rfl, n, os, rfl⟩
    have hS := holds_sorted (n := n) (os := os) hH hg
    have hC := Tryz.slices_Compact_int g 0 cap (l.mergeSort fun x y => decide (x ≤ y)) _ hS (by omega) (by omega)
    have hI := fun q => ints_compact (n := n) (q := q) (os := os) hH hg hcap
    have hO := only_row (w := w) (n := n) (blk := g) (off := 0) (d := (l.mergeSort fun x y => decide (x ≤ y)).toArray) (os := os)
    refine ⟨rfl, ?_, hO.mono hgs, ?_⟩
    · have := ints_of_holds (zs := l.mergeSort fun x y => decide (x ≤ y)) (cap := cap) hS (Nat.lt_of_lt_of_le hg hO.size) (fun j x hj => by
        have hjl := (List.getElem?_eq_some_iff.1 hj).1
        refine ⟨by simpa using hjl, ?_⟩
        rw [getElem!_pos _ _ (by simpa using hjl)]
        rw [List.getElem?_eq_getElem hjl] at hj
        simpa using Option.some.inj hj) (by omega)
      rwa [hlen] at this
    · rw [hlen] at hC
      refine hC.mono ?_
      rintro e w2 ⟨rfl, q, rfl⟩
      refine ⟨_, rfl, ?_, rfl, (hO.trans only_row').mono hgs⟩
      have := hI q
      rw [hlen] at this
      exact this

set_option maxHeartbeats 1000000 in
/-- a copy of one's own -/
theorem cloneI_any (va : Value) (l : List Int) (w : World) (h : IntsAt w va l) (hn : l.length ≤ 1000000) :
    Calls Tryz.prog 26 #[va] w fun e w' => ∃ v', e = .returned v' ∧ OwnI w' w.heap.size v' l ∧ Below w.heap.size w w' := by
  obtain ⟨a, c, rfl⟩ := h.form
  cases a with
  | none =>
    have hl : l = [] := by
      obtain ⟨a, cap, e, hc, hx⟩ := h
      cases e
      cases l with
      | nil => rfl
      | cons x t => obtain ⟨g, o, e, _⟩ := hx (by simp); cases e
    subst hl
    have he : (binOp BinOp.eql 22 (.slice none 0 c) (.slice none 0 0)).run Tryz.prog w = .ok (.bool true) w := by kernel_rfl
    clear h
    go_enter Tryz.func26, Tryz.ntmps26
    go_wp2
    go_ret
    exact ⟨_, rfl, OwnR.nil _ _ _ _ _, Below.refl _ _⟩
  | some g =>
    obtain ⟨i0, hi, hz0, hz1, hz2⟩ := info_parts info_int
    have hal := (Below.refl w.heap.size w).alloc (Nat.le_refl _) (.cells #[] 3)
    have HR := Lib.hid (RowsAt.kept h.rows hal)
    have HO := Lib.hid (OwnR.empty w 1 csI 3 w.heap.size rfl)
    have HB := Lib.hid hal
    have he : (binOp BinOp.eql 22 (.slice (some g) l.length c) (.slice none 0 0)).run Tryz.prog w = .ok (.bool false) w := by kernel_rfl
    clear h hal
    go_enter Tryz.func26, Tryz.ntmps26
    go_wp2_with (at_builtin; refine wpList_append_rows csI_len (by decide) csI_one13 rfl _ _ 22 rfl w.heap.size 3 i0 (.int .i64 0) 8 Tryz.underlying22 hi hz0 hz1 hz2 rfl _ _ rfl HO.out _ l rfl HR.out (by unfold maxLen; simp; omega) (by simp; omega) HB.out.size ?_; intro v2 w2 o2 g2; have HO2 := Lib.hid o2; have HB2 := Lib.hid (OwnR.below HO.out HB.out HB.out.size g2); clear o2 g2)
    go_ret
    exact ⟨_, rfl, HO2.out, HB2.out⟩
end Go.Proofs.YtjmgokjljmmmgaaGreat
/- Lists of lists of numbers; rows of numbers that are brought into new memory (slices.Grow, slices.Concat at []int). FOR ALL LATER STAGES. -/
namespace Go.Proofs.YtjmgokjljmmmgaaGreat
open Go.RowKit

/-- a list of lists of numbers -/
def IssAt (w : World) (v : Value) (L : List (List Int)) : Prop := ∃ ts : List Sl, RowsAt w 1 csS v ts ∧ ts.length = L.length ∧ ∀ (j : Nat) (t : Sl) (l : List Int), ts[j]? = some t → L[j]? = some l → RowsAt w 1 csI (sl t) l
theorem IssAt.kept {w w' : World} {v : Value} {L : List (List Int)} (h : IssAt w v L) (hb : Below w.heap.size w w') : IssAt w' v L := by
  obtain ⟨ts, h1, h2, h3⟩ := h
  exact ⟨ts, h1.kept hb, h2, fun j t l e1 e2 => (h3 j t l e1 e2).kept hb⟩
theorem IssAt.form {w : World} {v : Value} {L : List (List Int)} (h : IssAt w v L) : ∃ a c, v = .slice a L.length c := by
  obtain ⟨ts, h1, h2, _⟩ := h
  obtain ⟨a, c, e⟩ := h1.form
  rw [h2] at e
  exact ⟨a, c, e⟩
theorem IssAt.at {w : World} {v : Value} {L : List (List Int)} (h : IssAt w v L) (k : Nat) (hk : k < L.length) :
    ∃ g o c a n, v = .slice (some ⟨g, o, none⟩) L.length c ∧ g < w.heap.size ∧ w.cell? ⟨g, o + k, none⟩ = some (.slice a L[k].length n) ∧ RowsAt w 1 csI (.slice a L[k].length n) L[k] := by
  obtain ⟨ts, h1, h2, h3⟩ := h
  obtain ⟨a, c, e, hc, hx⟩ := h1
  have hkt : k < ts.length := by rw [h2]; exact hk
  obtain ⟨g, o, e', hg, hcell⟩ := hx (by omega)
  subst e'
  have hb := h3 k ts[k] L[k] (List.getElem?_eq_getElem hkt) (List.getElem?_eq_getElem hk)
  obtain ⟨a', n, e2⟩ := RowsAt.form hb
  have hcl := hcell k ts[k] (List.getElem?_eq_getElem hkt) 0 (sl ts[k]) rfl
  rw [e2] at hb hcl
  rw [h2] at e
  rw [Nat.mul_one, Nat.add_zero] at hcl
  exact ⟨g, o, c, a', n, e, hg, hcl, hb⟩
/-- two lists that a call gathers -/
theorem iss_two {w : World} {va vb : Value} {l r : List Int} (ha : RowsAt w 1 csI va l) (hb : RowsAt w 1 csI vb r) (T : TypeId) : IssAt (w.alloc (.cells #[va, vb] T)) (.slice (some ⟨w.heap.size, 0, none⟩) 2 2) [l, r] := by
  have hB := (Below.refl w.heap.size w).alloc (Nat.le_refl _) (.cells #[va, vb] T)
  have ha := ha.kept hB
  have hb := hb.kept hB
  obtain ⟨a, c, rfl⟩ := RowsAt.form ha
  obtain ⟨a', c', rfl⟩ := RowsAt.form hb
  refine ⟨[(a, l.length, c), (a', r.length, c')], ⟨_, 2, rfl, by simp, fun _ => ⟨_, _, rfl, by simp, fun j x hj i u hu => ?_⟩⟩, rfl, fun j t m h1 h2 => ?_⟩
  · rcases j with _ | _ | j
    · simp at hj; subst hj
      rcases i with _ | i
      · simp [csS, sl] at hu; subst hu; simp [World.cell?_alloc_at]
      · simp [csS] at hu
    · simp at hj; subst hj
      rcases i with _ | i
      · simp [csS, sl] at hu; subst hu; simp [World.cell?_alloc_at]
      · simp [csS] at hu
    · simp at hj
  · rcases j with _ | _ | j
    · simp at h1 h2; subst h1; subst h2; exact ha
    · simp at h1 h2; subst h1; subst h2; exact hb
    · simp at h1

set_option maxHeartbeats 2000000 in
set_option maxRecDepth 100000 in
/-- room for so many -/
theorem growI_any (n : Nat) (w : World) (hn : n ≤ 1000000000) :
    Calls Tryz.prog 76 #[.slice none 0 0, .int .i64 (n : Int)] w fun e w' => ∃ v, e = .returned v ∧ OwnI w' w.heap.size v [] ∧ Below w.heap.size w w' := by
  obtain ⟨i0, hi, hz0, hz1, hz2⟩ := info_parts info_int
  by_cases h0 : n = 0
  · subst h0
    go_enter Tryz.func76, Tryz.ntmps76
    go_wp2
    go_ret
    exact ⟨_, rfl, OwnR.nil _ _ _ _ _, Below.refl _ _⟩
  · have h1 : ¬ ((n : Int) < 0) := by omega
    have h2 : (0 : Int) < (n : Int) := by omega
    have h3 : (n : Int) ≤ 1000000000 := by omega
    have hold : (Builtin.firstCells i0.size 0 (.slice none 0 0)).run Tryz.prog w.drew = .ok ([] : List Value).toArray w.drew := run_firstCells_none w.drew i0.size 0 0 0
    have hrz : ∀ ty, (Builtin.append_ #[22, 3] ty #[.slice none 0 0, .int .i64 (n : Int)]).run Tryz.prog w =
        .ok (.slice (some ⟨w.heap.size, 0, none⟩) n (grownCap w n 0 3)) (w.drew.alloc (.cells (Builtin.zeroCells (Value.int .i64 0).cells n ++ Builtin.zeroCells (Value.int .i64 0).cells (grownCap w n 0 3 - n)) 3)) := fun ty => by
      have h := Lib.run_append_grow_zeros w 22 3 ty 3 i0 (.int .i64 0) .i64 .i64 Tryz.underlying22 Tryz.underlying3 hi hz0 none 0 0 [] hold n (by omega) (by rw [hz1]; decide) (by omega) (by omega)
        (by rw [hz2]; omega) (by rw [hz2, Nat.zero_add, nextslicecap_zero (show 0 < n by omega)]; omega)
      rw [Nat.zero_add] at h
      simpa using h
    have hG : n ≤ grownCap w n 0 3 := grownCap_ge w _ _ _
    have hG2 := grownCap_le_maxLen w n 0 3 (by unfold maxLen; omega)
    obtain ⟨G, hg⟩ : ∃ G, G = grownCap w n 0 3 := ⟨_, rfl⟩
    rw [← hg] at hrz hG hG2
    have g1 : (n : Int) ≤ (G : Int) := by omega
    have g2 : (G : Int) ≤ 9223372036854775807 := by unfold maxLen at hG2; omega
    obtain ⟨X, hX⟩ : ∃ X, X = Builtin.zeroCells (Value.int .i64 0).cells n ++ Builtin.zeroCells (Value.int .i64 0).cells (G - n) := ⟨_, rfl⟩
    rw [← hX] at hrz
    have hXs : X.size = G * 1 := by rw [hX]; simp only [Array.size_append, size_zeroCells]; simp [Value.cells]; omega
    have HO := Lib.hid (World.ownsRow_made (e := 3) (size := 1) (base := w.heap.size) w.drew X G (by simp) hG2 hXs)
    have HB := Lib.hid ((Below.refl w.heap.size w).drew.alloc (by simp) (.cells X 3))
    clear hg hX hXs hold hG2
    go_enter Tryz.func76, Tryz.ntmps76
    go_wp2_with (at_builtin; refine Lib.wpList_append_run _ rfl _ _ _ _ rfl _ _ rfl rfl _ _ (hrz _) ?_)
    all_goals (go_ret; exact ⟨_, rfl, HO.out, HB.out⟩)

/-- all of them, one behind the other -/
def catI (L : List (List Int)) : List Int := L.flatten
theorem catI_next (L : List (List Int)) (k : Nat) (h : k < L.length) : catI (L.take (k + 1)) = catI (L.take k) ++ L[k] := by
  unfold catI
  rw [List.take_succ_eq_append_getElem h, List.flatten_append]
  simp
theorem catI_le (L : List (List Int)) (k : Nat) : (catI (L.take k)).length ≤ (catI L).length := by
  have : catI L = catI (L.take k) ++ catI (L.drop k) := by
    unfold catI
    rw [← List.flatten_append, List.take_append_drop]
  rw [this, List.length_append]
  omega

set_option maxHeartbeats 4000000 in
set_option maxRecDepth 100000 in
theorem concatI_any (va : Value) (L : List (List Int)) (w : World) (ha : IssAt w va L) (hl : L.length ≤ 1000000) (hc : (catI L).length ≤ 1000000000) :
    Calls Tryz.prog 59 #[va] w fun e w' => ∃ v, e = .returned v ∧ OwnI w' w.heap.size v (catI L) ∧ Below w.heap.size w w' := by
  obtain ⟨i0, hi, hz0, hz1, hz2⟩ := info_parts info_int
  have HA := Lib.hid ha
  have HN := fun k h => Lib.hid (catI_next L k h)
  have HL := fun k => Lib.hid (catI_le L k)
  obtain ⟨a, c, rfl⟩ := IssAt.form ha
  have hg := fun n (h : n ≤ 1000000000) => Lib.hid (growI_any n w h)
  clear ha
  go_enter Tryz.func59, Tryz.ntmps59
  go_wp2
  go_loopw [3, 11] (fun s i wr => ∃ k : Nat, k ≤ L.length ∧ s = .int .i64 ((catI (L.take k)).length : Int) ∧ i = .int .i64 k ∧ w = wr) (fun _ i _ => L.length - (intOf i).toNat)
  case atStart => exact ⟨0, Nat.zero_le _, by simp [catI], rfl, rfl⟩
  case round =>
    obtain ⟨k, hk, rfl, rfl, rfl⟩ := hrel
    by_cases hlt : k < L.length
    · obtain ⟨g, o, cc, x, n, e, _, p0, hx⟩ := IssAt.at HA.out k hlt
      cases e
      have hn := congrArg List.length (HN k hlt).out
      rw [List.length_append] at hn
      have h1 := (HL (k + 1)).out
      have k0 : (0 : Int) ≤ (k : Int) := by omega
      have k1 : (k : Int) < (L.length : Int) := by omega
      generalize (catI (L.take k)).length = s at *
      generalize L[k].length = m at *
      have s1 : (s : Int) + (m : Int) ≤ 1000000000 := by omega
      have s0 : (0 : Int) ≤ (s : Int) := by omega
      have m0 : (0 : Int) ≤ (m : Int) := by omega
      have HNN := Lib.hid hn
      clear hn h1 hx
      go_wp2
      go_roundw
      case rel => exact ⟨k + 1, by omega, by rw [HNN.out]; go_num, by go_num, by trivial⟩
      case measure => simp [intOf] <;> omega
    · have hke : k = L.length := by omega
      subst hke
      rw [List.take_length]
      have hcc := (hg _ hc).out
      generalize (catI L).length = N at *
      have N0 : (N : Int) ≤ 1000000000 := by omega
      have HC := Lib.hid hcc
      clear hcc hlt hk hg
      go_wp2_with (go_at_call 76; (with_reducible refine HC.out.mono ?_); rintro e w1 ⟨v, rfl, hp, hb⟩; have HP := Lib.hid hp; clear hp)
      go_loopw [6, 27] (fun v i wr => ∃ k : Nat, k ≤ L.length ∧ OwnI wr w.heap.size v (catI (L.take k)) ∧ i = .int .i64 k ∧ Below w.heap.size w wr) (fun _ i _ => L.length - (intOf i).toNat)
      case atStart => exact ⟨0, Nat.zero_le _, HP.out, rfl, hb⟩
      case round =>
        clear HP hb
        obtain ⟨k, hk, hown, rfl, hB⟩ := hrel
        have hsz : w.heap.size ≤ wr.heap.size := hB.size
        by_cases hlt : k < L.length
        · obtain ⟨g, o, cc, x, n, e, _, p0, hx⟩ := IssAt.at (HA.out.kept hB) k hlt
          cases e
          have hn := congrArg List.length (HN k hlt).out
          rw [List.length_append] at hn
          have h1 := (HL (k + 1)).out
          have k0 : (0 : Int) ≤ (k : Int) := by omega
          have k1 : (k : Int) < (L.length : Int) := by omega
          have hlen : (catI (L.take k)).length + L[k].length ≤ 1000000000 := by omega
          have HNK := HN k hlt
          clear hn h1
          go_wp2_with (at_builtin; refine wpList_append_rows csI_len (by decide) csI_one13 rfl _ _ 22 rfl w.heap.size 3 i0 (.int .i64 0) 8 Tryz.underlying22 hi hz0 hz1 hz2 rfl _ _ rfl hown _ _ rfl hx (by unfold maxLen; omega) (by omega) hsz ?_)
          intro v' w5 h1 h2
          have hB5 := OwnR.below hown hB hsz h2
          replace h1 : OwnI w5 w.heap.size v' (catI (L.take k) ++ L[k]) := h1
          rw [← HNK.out] at h1
          have HO5 := Lib.hid h1
          clear h1 h2 hB hown p0 hx
          go_wp2
          go_roundw
          case rel => exact ⟨k + 1, by omega, HO5.out, by go_num, hB5⟩
          case measure => simp [intOf] <;> omega
        · have hke : k = L.length := by omega
          subst hke
          rw [List.take_length] at hown
          have HOW := Lib.hid hown
          clear hown
          go_wp2
          go_ret
          exact ⟨_, rfl, HOW.out, hB⟩

end Go.Proofs.YtjmgokjljmmmgaaGreat
/- Stage 16: the document's Order, Left. -/
namespace Go.Proofs.YtjmgokjljmmmgaaGreat
open Go.RowKit

def slen : Value → Nat
  | .slice _ n _ => n
  | _ => 0

end Go.Proofs.YtjmgokjljmmmgaaGreat
/- The laws of layer 17 (sets of numbers), over the program's contracts as one structure. -/
namespace Go.Proofs.YtjmgokjljmmmgaaGreat
open Go.RowKit

end Go.Proofs.YtjmgokjljmmmgaaGreat
/- Stage 17's program: Of; what is in a list (among), what is beside it; And, Less, Within, Or; the contracts as one. -/
namespace Go.Proofs.YtjmgokjljmmmgaaGreat
open Go.RowKit

theorem store_func (P : Program) (w : World) (a : Addr) (m : Mode) (f : Fn) (x y : Array Value) : (store a (.func f x y) m).run P w = stored P w a (.func f x y) m := run_store P w a _ m rfl
attribute [local go_sem] store_func
theorem below_drew17 {w : World} : ∀ q, Below w.heap.size w (w.drewN q)
  | 0 => Below.refl _ _
  | q + 1 => (below_drew17 q).drew

set_option maxHeartbeats 1000000 in
theorem iOf_any (va : Value) (l : List Int) (w : World) (ha : IntsAt w va l) (hl : l.length ≤ 1000000) :
    Calls Tryz.prog 55 #[va] w fun e w' => ∃ v, e = .returned v ∧ IntsAt w' v (setL l) ∧ Below w.heap.size w w' := by
  have CL := Lib.hid (cloneI_any va l w ha hl)
  have HSS := Lib.hid (set_sort l)
  clear ha
  go_enter Tryz.func55, Tryz.ntmps55
  go_upto_region 2 with (go_at_call 26; (with_reducible refine CL.out.mono ?_); rintro e w1 ⟨v1, rfl, ho, hb⟩; have HO1 := Lib.hid ho; have HB1 := Lib.hid hb; clear ho hb)
  have SO := Lib.hid (sortI_any w1 _ v1 l HO1.out hl)
  have HC := Lib.hid (OwnI.cells17 HO1.out)
  clear CL HO1
  go_wp2_with (first
    | (go_at_call 71; (with_reducible refine SO.out.mono ?_); rintro e w3 ⟨rfl, h3, o3, k3⟩; have CO := Lib.hid k3; clear h3 k3 o3)
    | (go_at_call 72; (with_reducible refine CO.out.mono ?_); rintro e w4 ⟨u4, rfl, h4, e4, o4⟩; rw [HSS.out] at h4; have HU := Lib.hid h4; have HO4 := Lib.hid o4; clear h4 e4 o4))
  go_ret
  exact ⟨_, rfl, HU.out, HB1.out.trans (Only.below HO4.out (fun k hk => (HC.out k hk).1) HB1.out.size)⟩

/-- what is in a list: its numbers in order, in the box p -/
def AmAt (w : World) (p : Nat) (b : List Int) : Prop := ∃ v, Blk w p [v] ∧ IntsAt w v (setL b)
theorem AmAt.kept {w w' : World} {p : Nat} {b : List Int} (h : AmAt w p b) (hb : Below w.heap.size w w') : AmAt w' p b := by
  obtain ⟨v, h1, h2⟩ := h
  exact ⟨v, h1.kept hb, h2.below hb⟩
theorem searchI_any (v : Value) (L : List Int) (x : Int) (w : World) (h : IntsAt w v L) (hr : risL L) (hl : L.length ≤ 1000000) :
    Calls Tryz.prog 77 #[v, .int .i64 x] w fun e w' => (∃ n : Int, e = .returned (.tuple #[.int .i64 n, .bool (inL L x)])) ∧ Below w.heap.size w w' := by
  by_cases h0 : L.length = 0
  · obtain ⟨a, c, rfl⟩ := h.form
    have e : inL L x = false := inL_not.2 (by rw [List.eq_nil_of_length_eq_zero h0]; simp)
    rw [h0, e]
    refine (Tryz.slices_BinarySearch_int_empty a c x w).mono ?_
    rintro e w1 ⟨rfl, rfl⟩
    exact ⟨⟨_, rfl⟩, Below.refl _ _⟩
  · obtain ⟨a, c, rfl, hc, hx⟩ := h
    obtain ⟨g, o, rfl, hg, hcell⟩ := hx (by omega)
    have hs : (L.take L.length).Pairwise (· ≤ ·) := by
      rw [List.take_length]
      exact List.Pairwise.imp (fun h => Int.le_of_lt h) hr
    refine (Tryz.slices_BinarySearch_int g o L.length c L x w (Nat.le_refl _) (by omega) (fun j hj => ?_) hs).mono ?_
    · rw [hcell j L[j] (List.getElem?_eq_getElem hj), List.getD_eq_getElem?_getD, List.getElem?_eq_getElem hj]
      rfl
    · rintro e w1 ⟨rfl, q, rfl⟩
      rw [List.take_length]
      have e : L.contains x = inL L x := by
        unfold inL
        rw [Bool.eq_iff_iff, List.contains_iff_mem, decide_eq_true_iff]
      rw [e]
      exact ⟨⟨_, rfl⟩, below_drew17 q⟩

set_option maxHeartbeats 1000000 in
theorem iAmong_any (va : Value) (l : List Int) (w : World) (ha : IntsAt w va l) (hl : l.length ≤ 1000000) :
    Calls Tryz.prog 69 #[va] w fun e w' => ∃ p, e = .returned (.func (.func 83) #[] #[.pointer (some ⟨p, 0, none⟩)]) ∧ AmAt w' p l ∧ Below w.heap.size w w' := by
  have hmf : ∀ (fn : Fn) (first cap : Array Value) (w : World), (Instr.makeFunc fn first cap).run Tryz.prog w = .ok (.func fn first cap) w := fun _ _ _ _ => rfl
  have OF := Lib.hid (iOf_any va l w ha hl)
  clear ha
  go_enter Tryz.func69, Tryz.ntmps69
  go_wp2_with (go_at_call 55; (with_reducible refine OF.out.mono ?_); rintro e w1 ⟨v1, rfl, hi, hb⟩; have HB1 := Lib.hid hb; obtain ⟨a1, c1, e1⟩ := hi.form; subst e1; have HI := Lib.hid hi; clear hi hb)
  go_ret
  have hal := (Below.refl w1.heap.size w1).alloc (Nat.le_refl _) (.cells #[.slice a1 (setL l).length c1] 22)
  exact ⟨_, rfl, ⟨_, Blk.new w1 [.slice a1 (setL l).length c1] 22, HI.out.below hal⟩, HB1.out.trans (hal.mono HB1.out.size)⟩

set_option maxHeartbeats 1000000 in
theorem iAmong1_any (p : Nat) (b : List Int) (x : Int) (w : World) (h : AmAt w p b) (hl : b.length ≤ 1000000) :
    Calls Tryz.prog 83 #[.int .i64 x, .pointer (some ⟨p, 0, none⟩)] w fun e w' => e = .returned (.bool (inL b x)) ∧ Below w.heap.size w w' := by
  obtain ⟨v, h1, h2⟩ := h
  have c0 := h1.cell 0 rfl
  have hs := searchI_any v (setL b) x w h2 (setL_ris b) (Nat.le_trans (setL_le b) hl)
  rw [inL_set] at hs
  have HS := Lib.hid hs
  obtain ⟨a, c, rfl⟩ := h2.form
  clear h1 h2 hs
  go_enter Tryz.func83, Tryz.ntmps83
  go_wp2_with (go_at_call 77; (with_reducible refine HS.out.mono ?_); rintro e w1 ⟨⟨n, rfl⟩, hb⟩; have HB := Lib.hid hb; clear hb)
  go_ret
  exact ⟨rfl, HB.out⟩

/-- what is beside a list -/
def BeAt (w : World) (p : Nat) (b : List Int) : Prop := ∃ p', Blk w p [.func (.func 83) #[] #[.pointer (some ⟨p', 0, none⟩)]] ∧ AmAt w p' b
theorem BeAt.kept {w w' : World} {p : Nat} {b : List Int} (h : BeAt w p b) (hb : Below w.heap.size w w') : BeAt w' p b := by
  obtain ⟨v, h1, h2⟩ := h
  exact ⟨v, h1.kept hb, h2.kept hb⟩

set_option maxHeartbeats 1000000 in
theorem iBeside_any (va : Value) (l : List Int) (w : World) (ha : IntsAt w va l) (hl : l.length ≤ 1000000) :
    Calls Tryz.prog 54 #[va] w fun e w' => ∃ p, e = .returned (.func (.func 70) #[] #[.pointer (some ⟨p, 0, none⟩)]) ∧ BeAt w' p l ∧ Below w.heap.size w w' := by
  have hmf : ∀ (fn : Fn) (first cap : Array Value) (w : World), (Instr.makeFunc fn first cap).run Tryz.prog w = .ok (.func fn first cap) w := fun _ _ _ _ => rfl
  have OF := Lib.hid (iAmong_any va l w ha hl)
  clear ha
  go_enter Tryz.func54, Tryz.ntmps54
  go_wp2_with (go_at_call 69; (with_reducible refine OF.out.mono ?_); rintro e w1 ⟨p1, rfl, hi, hb⟩; have HI := Lib.hid hi; have HB1 := Lib.hid hb; clear hi hb)
  go_ret
  have hal := (Below.refl w1.heap.size w1).alloc (Nat.le_refl _) (.cells #[.func (.func 83) #[] #[.pointer (some ⟨p1, 0, none⟩)]] 35)
  exact ⟨_, rfl, ⟨p1, Blk.new w1 [.func (.func 83) #[] #[.pointer (some ⟨p1, 0, none⟩)]] 35, HI.out.kept hal⟩, HB1.out.trans (hal.mono HB1.out.size)⟩

set_option maxHeartbeats 1000000 in
theorem iBeside1_any (p : Nat) (b : List Int) (x : Int) (w : World) (h : BeAt w p b) (hl : b.length ≤ 1000000) :
    Calls Tryz.prog 70 #[.int .i64 x, .pointer (some ⟨p, 0, none⟩)] w fun e w' => e = .returned (.bool (!inL b x)) ∧ Below w.heap.size w w' := by
  obtain ⟨p', h1, h2⟩ := h
  have c0 := h1.cell 0 rfl
  have HS := Lib.hid (iAmong1_any p' b x w h2 hl)
  clear h1 h2
  go_enter Tryz.func70, Tryz.ntmps70
  go_wp2_with (go_at_call 83; (with_reducible refine HS.out.mono ?_); rintro e w1 ⟨rfl, hb⟩; have HB := Lib.hid hb; clear hb)
  go_ret
  exact ⟨rfl, HB.out⟩

set_option maxHeartbeats 1000000 in
theorem iWithin_any (va vb : Value) (a b : List Int) (w : World) (ha : IntsAt w va a) (hb : IntsAt w vb b) (hla : a.length ≤ 1000000) (hlb : b.length ≤ 1000000) :
    Calls Tryz.prog 24 #[va, vb] w fun e w' => e = .returned (.bool (withinB a b)) ∧ Below w.heap.size w w' := by
  have BE := Lib.hid (iBeside_any vb b w hb hlb)
  have HVA := Lib.hid ha
  have hrs := runS_any (fun x => !inL b x) a
  have han := any_not a b
  rw [← hrs] at han
  generalize withinB a b = r at *
  have HAN := Lib.hid han
  obtain ⟨aa, ca, rfl⟩ := ha.form
  clear ha hb hrs han
  go_enter Tryz.func24, Tryz.ntmps24
  go_wp2_with (first
    | (go_at_call 54; (with_reducible refine BE.out.mono ?_); rintro e w2 ⟨p2, rfl, hm, hb⟩; have HB2 := Lib.hid hb; have SM := Lib.hid (iSome_any (J := fun (_ : Unit) F w' => BeAt w' p2 b ∧ ∀ k, ¬ F k) (fun _ x => ((), !inL b x)) 70 (.pointer (some ⟨p2, 0, none⟩)) (fun _ _ => by kernel_rfl) _ a w2 (HVA.out.below hb) hla () (fun _ => False) (fun _ _ _ h => h) ⟨hm, fun _ h => h⟩ (fun _ _ => True) trivial (fun _ _ _ _ => trivial) (fun s F w' x k _ _ _ hj _ => (iBeside1_any p2 b x w' hj.1 hlb).mono (by rintro e w3 ⟨rfl, h3⟩; exact ⟨rfl, F, ⟨hj.1.kept h3, hj.2⟩, Mv.of_below h3⟩))); clear hm hb)
    | (go_at_call 52; (with_reducible refine SM.out.mono ?_); rintro e w3 ⟨rfl, F', _, hm⟩; have HB3 := Lib.hid (HB2.out.trans (hm.only.below (fun k hk => hk.elim) HB2.out.size)); clear hm))
  go_ret
  exact ⟨by rw [← HAN.out]; rfl, HB3.out⟩

set_option maxHeartbeats 1000000 in
theorem iOr_any (va vb : Value) (a b : List Int) (w : World) (ha : IntsAt w va a) (hb : IntsAt w vb b) (hla : a.length ≤ 100000) (hlb : b.length ≤ 100000) :
    Calls Tryz.prog 34 #[va, vb] w fun e w' => ∃ v, e = .returned v ∧ IntsAt w' v (orL a b) ∧ Below w.heap.size w w' := by
  have hcat : catI [a, b] = a ++ b := by simp [catI]
  have hlen : (a ++ b).length ≤ 1000000 := by rw [List.length_append]; omega
  have hc := concatI_any _ [a, b] _ (iss_two ha.rows hb.rows 22) (by simp) (by rw [hcat]; omega)
  rw [hcat] at hc
  have HAL := Lib.hid ((Below.refl w.heap.size w).alloc (Nat.le_refl _) (.cells #[va, vb] 22))
  obtain ⟨aa, ca, rfl⟩ := ha.form
  obtain ⟨ab, cb, rfl⟩ := hb.form
  have HC := Lib.hid hc
  unfold orL
  generalize a ++ b = l at *
  clear ha hb hc hcat
  go_enter Tryz.func34, Tryz.ntmps34
  go_wp2_with (first
    | (go_at_call 59; (with_reducible refine HC.out.mono ?_); rintro e w1 ⟨v1, rfl, ho, hb⟩; have HB1 := Lib.hid (HAL.out.trans (hb.mono HAL.out.size)); have OF := Lib.hid (iOf_any v1 l w1 (OwnI.ints ho) hlen); clear ho hb)
    | (go_at_call 55; (with_reducible refine OF.out.mono ?_); rintro e w2 ⟨v2, rfl, hi, hb⟩; have HI := Lib.hid hi; have HB2 := Lib.hid (HB1.out.trans (hb.mono HB1.out.size)); clear hi hb))
  go_ret
  exact ⟨_, rfl, HI.out, HB2.out⟩

end Go.Proofs.YtjmgokjljmmmgaaGreat
/- Stage 21's program: isFull, isWaiting, holds, waitsFor. -/
namespace Go.Proofs.YtjmgokjljmmmgaaGreat
open Go.RowKit

abbrev lv7 (tk ta wo un du go : Int) (v : Value) : Value := .agg #[.int .i64 tk, .int .i64 ta, .int .i64 wo, .int .i64 un, .int .i64 du, .int .i64 go, v]
set_option maxHeartbeats 4000000 in
set_option maxRecDepth 100000 in
theorem pFull_any (tk ta wo un du go : Int) (a : Option Addr) (n c : Nat) (w : World) : Calls Tryz.prog 48 #[lv7 tk ta wo un du go (.slice a n c)] w fun e w' => e = .returned (.bool (decide (go = (n : Int)))) ∧ Below w.heap.size w w' := by
  have HB := Lib.hid ((Below.refl w.heap.size w).alloc (Nat.le_refl _) (.cells #[.int .i64 tk, .int .i64 ta, .int .i64 wo, .int .i64 un, .int .i64 du, .int .i64 go, .slice a n c] 43))
  by_cases e : go = (n : Int)
  · have e1 : (go == (n : Int)) = true := by simpa using e
    rw [decide_eq_true e]
    clear e
    go_enter Tryz.func48, Tryz.ntmps48
    go_wp2
    go_ret
    exact ⟨rfl, HB.out⟩
  · have e1 : (go == (n : Int)) = false := beq_noI e
    rw [decide_eq_false e]
    clear e
    go_enter Tryz.func48, Tryz.ntmps48
    go_wp2
    go_ret
    exact ⟨rfl, HB.out⟩
set_option maxHeartbeats 4000000 in
set_option maxRecDepth 100000 in
theorem pWaiting_any (tk ta wo un du go : Int) (a : Option Addr) (n c : Nat) (w : World) : Calls Tryz.prog 61 #[lv7 tk ta wo un du go (.slice a n c)] w fun e w' => e = .returned (.bool (decide (0 ≤ go) && decide (go < (n : Int)))) ∧ Below w.heap.size w w' := by
  have HB := Lib.hid ((Below.refl w.heap.size w).alloc (Nat.le_refl _) (.cells #[.int .i64 tk, .int .i64 ta, .int .i64 wo, .int .i64 un, .int .i64 du, .int .i64 go, .slice a n c] 43))
  by_cases e : 0 ≤ go
  · rw [decide_eq_true e, Bool.true_and]
    by_cases e2 : go < (n : Int)
    · rw [decide_eq_true e2]
      go_enter Tryz.func61, Tryz.ntmps61
      go_wp2
      go_ret
      exact ⟨rfl, HB.out⟩
    · rw [decide_eq_false e2]
      go_enter Tryz.func61, Tryz.ntmps61
      go_wp2
      go_ret
      exact ⟨rfl, HB.out⟩
  · rw [decide_eq_false e, Bool.false_and]
    go_enter Tryz.func61, Tryz.ntmps61
    go_wp2
    go_ret
    exact ⟨rfl, HB.out⟩
set_option maxHeartbeats 4000000 in
set_option maxRecDepth 100000 in
theorem pHolds_any (tk ta wo un du : Int) (j : Nat) (a : Option Addr) (c : Nat) (l : List Int) (id : Int) (w : World) (hi : IntsAt w (.slice a l.length c) l) (hr : risL l) (hj : j ≤ l.length) (hl : l.length ≤ 1000) :
    Calls Tryz.prog 62 #[lv7 tk ta wo un du (j : Int) (.slice a l.length c), .int .i64 id] w fun e w' => e = .returned (.bool (inL (l.take j) id)) ∧ Below w.heap.size w w' := by
  have hb := (Below.refl w.heap.size w).alloc (Nat.le_refl _) (.cells #[.int .i64 tk, .int .i64 ta, .int .i64 wo, .int .i64 un, .int .i64 du, .int .i64 (j : Int), .slice a l.length c] 43)
  have HB := Lib.hid hb
  obtain ⟨a', c', ec, hcap, _⟩ := IntsAt.rows hi
  cases ec
  have HH := Lib.hid (searchI_any (.slice a j c) (l.take j) id (w.alloc (.cells #[.int .i64 tk, .int .i64 ta, .int .i64 wo, .int .i64 un, .int .i64 du, .int .i64 (j : Int), .slice a l.length c] 43)) ((RowsAt.ints (RowsAt.front (IntsAt.rows hi) j hj)).below hb) (hr.sublist (List.take_sublist ..)) (by rw [List.length_take]; omega))
  obtain ⟨r, hrr⟩ : ∃ r, inL (l.take j) id = r := ⟨_, rfl⟩
  rw [hrr] at HH ⊢
  have j0 : (0 : Int) ≤ (j : Int) := by omega
  have j1 : j ≤ c := by omega
  have j2 : (j : Int) ≤ 1000 := by omega
  generalize l.length = n at *
  clear hb hrr hi hj hl hcap hr
  go_enter Tryz.func62, Tryz.ntmps62
  go_wp2_with (go_at_call 77; (with_reducible refine HH.out.mono ?_); rintro e w1 ⟨⟨q, rfl⟩, b1⟩; have HB1 := Lib.hid (HB.out.trans (b1.mono HB.out.size)); clear b1)
  go_ret
  exact ⟨rfl, HB1.out⟩
set_option maxHeartbeats 4000000 in
set_option maxRecDepth 100000 in
theorem pWaitsFor_any (tk ta wo un du go : Int) (a : Option Addr) (c : Nat) (l : List Int) (id : Int) (w : World) (hi : IntsAt w (.slice a l.length c) l) (hl : l.length ≤ 1000) :
    Calls Tryz.prog 63 #[lv7 tk ta wo un du go (.slice a l.length c), .int .i64 id] w fun e w' => e = .returned (.bool (decide (0 ≤ go ∧ l[go.toNat]? = some id))) ∧ Below w.heap.size w w' := by
  have hb := (Below.refl w.heap.size w).alloc (Nat.le_refl _) (.cells #[.int .i64 tk, .int .i64 ta, .int .i64 wo, .int .i64 un, .int .i64 du, .int .i64 go, .slice a l.length c] 43)
  have HB := Lib.hid hb
  have hX := Blk.new w [.int .i64 tk, .int .i64 ta, .int .i64 wo, .int .i64 un, .int .i64 du, .int .i64 go, .slice a l.length c] 43
  have HX := Lib.hid hX
  have HW := Lib.hid (pWaiting_any tk ta wo un du go a l.length c (w.alloc (.cells #[.int .i64 tk, .int .i64 ta, .int .i64 wo, .int .i64 un, .int .i64 du, .int .i64 go, .slice a l.length c] 43)))
  have HI := Lib.hid (hi.below hb)
  by_cases h : 0 ≤ go ∧ go < (l.length : Int)
  · rw [decide_eq_true h.1, decide_eq_true h.2] at HW
    obtain ⟨j, rfl⟩ : ∃ j : Nat, go = (j : Int) := ⟨go.toNat, by omega⟩
    have hjl : j < l.length := by omega
    rw [Int.toNat_natCast, List.getElem?_eq_getElem hjl]
    obtain ⟨g2, o2, c2, e2, _, _, m0⟩ := HI.out.spot j hjl
    cases e2
    obtain ⟨y, hy⟩ : ∃ y, l[j]'hjl = y := ⟨_, rfl⟩
    rw [hy] at m0 ⊢
    have j0 : (0 : Int) ≤ (j : Int) := by omega
    have j1 : (j : Int) < (l.length : Int) := by omega
    have j2 : (j : Int) ≤ 1000 := by omega
    have M0 := Lib.hid m0
    have hq : decide (0 ≤ (j : Int) ∧ some y = some id) = (y == id) := by
      by_cases e : y = id
      · subst e; simp
      · simp [e]
    rw [hq]
    clear hb hX hi h hy m0 hq hl HI hjl
    generalize l.length = n at *
    go_enter Tryz.func63, Tryz.ntmps63
    go_wp2_with (go_at_call 61; (with_reducible refine HW.out.mono ?_); rintro e w2 ⟨rfl, b1⟩; have HB1 := Lib.hid (HB.out.trans (b1.mono HB.out.size)); have q0 := (b1.cell (World.block_lt_of_cell? _ _ M0.out)).trans M0.out; have q5 := (HX.out.kept b1).cell 5 rfl; have q6 := (HX.out.kept b1).cell 6 rfl; clear b1)
    go_ret
    exact ⟨rfl, HB1.out⟩
  · have hw : (decide (0 ≤ go) && decide (go < (l.length : Int))) = false := by
      rw [Bool.eq_false_iff]
      intro h2
      rw [Bool.and_eq_true, decide_eq_true_eq, decide_eq_true_eq] at h2
      exact h h2
    rw [hw] at HW
    have hr : decide (0 ≤ go ∧ l[go.toNat]? = some id) = false := decide_eq_false fun h2 => by
      have := (List.getElem?_eq_some_iff.1 h2.2).1
      exact h ⟨h2.1, by omega⟩
    rw [hr]
    clear hb hX hi h hw hr hl HI
    generalize l.length = n at *
    go_enter Tryz.func63, Tryz.ntmps63
    go_wp2_with (go_at_call 61; (with_reducible refine HW.out.mono ?_); rintro e w2 ⟨rfl, b1⟩; have HB1 := Lib.hid (HB.out.trans (b1.mono HB.out.size)); clear b1)
    go_ret
    exact ⟨rfl, HB1.out⟩
end Go.Proofs.YtjmgokjljmmmgaaGreat
