/- Texts of this proof, joined: IsC; IsD; IsE; Shelf; SortI; ConcatI; IdLaw; IsF; WpA. -/
import Derived.Test.YtjmgokjljmmmgaaBun10
import Derived.Deep.AppendLies
import Derived.Deep.DeepCutAuto
import Derived.Shelf.Small.Bits
import Derived.Shelf.Small.Wraps
import Derived.Shelf.Strconv.Itoa0
import Derived.Shelf.Sort.Plain
import Derived.Ground.Names2Prog
import Derived.Shelf.Slices.Clone
import Derived.Shelf.Slices.CompactI
import Derived.Shelf.Slices.SearchI
import Derived.Shelf.Slices.Cells
import Derived.Shelf.Slices.In.SortNone
import Derived.Shelf.Slices.Empties
import Derived.Test.YtjmgokjljmmmgaaProg
import Derived.Lib.AppendZerosOnto
/- Stage 17's program: Right, Has, Above: what is asked and told of a list. -/
namespace Go.Proofs.Ytjmgokjljmmmgaa
open Go.RowKit

/-- one box -/
def BoJ (b : Nat) (s : Value) (F : Nat → Prop) (w : World) : Prop := Blk w b [s] ∧ ∀ k, F k ↔ k = b
theorem bo_keep {σ : Type} (b : Nat) (v : σ → Value) : KeepJ fun (s : σ) F w => BoJ b (v s) F w where
  lt := by
    rintro s F w ⟨h1, h2⟩ k hk
    rw [(h2 k).1 hk]
    exact h1.lt
  out := by
    rintro s F w w' ⟨h1, h2⟩ _ he
    exact ⟨h1.same (he b ((h2 b).2 rfl)), h2⟩

set_option maxHeartbeats 1000000 in
theorem iRight1_any (b : Nat) (s x : Int) (F : Nat → Prop) (w : World) (h : BoJ b (.int .i64 s) F w) :
    Calls Try.prog 51 #[.int .i64 x, .pointer (some ⟨b, 0, none⟩)] w fun e w' => e = .returned (.bool (rgt s x).2) ∧ ∃ F', BoJ b (.int .i64 (rgt s x).1) F' w' ∧ Mv F F' w w' := by
  obtain ⟨h1, h2⟩ := h
  have HS : Hid (∀ v, Blk (w.setCell ⟨b, 0, none⟩ v) b [v]) := Lib.hid fun v => h1.set 0 v
  have H2 := Lib.hid h2
  have c0 := h1.cell 0 rfl
  have z0 := h1.free 0 rfl
  clear h1 h2
  unfold rgt
  go_enter Try.func51, Try.ntmps51
  go_wp2
  go_ret
  exact ⟨rfl, F, ⟨HS.out _, H2.out⟩, (Only.refl _ _).set _ _ ((H2.out b).2 rfl), fun k hk => .inl hk⟩

/-- the list without its first number, as the model cuts it -/
theorem from17 (a : Option Addr) (n c : Nat) (hk : 1 ≤ n) (hn : n ≤ c) : ∃ a4 c4, (∀ w', (Instr.sliceAt 30 (.slice a n c) (some (.int .i64 1)) none none).run Try.prog w' = .ok (.slice a4 (n - 1) c4) w') ∧
    (∀ (w' : World) (l : List Int), l.length = n → RowsAt w' 1 csI (.slice a n c) l → RowsAt w' 1 csI (.slice a4 (n - 1) c4) (l.drop 1)) ∧ ∀ k, (Value.slice a4 (n - 1) c4).ownBlock = some k → (Value.slice a n c).ownBlock = some k := by
  have h1 : (1 : Int) ≤ (n : Int) := by omega
  by_cases hck : c = 1
  · have hc0 : n = 1 := by omega
    refine ⟨a, 0, fun w' => ?_, fun w' l hl h => ?_, fun k h => by cases a <;> simp [Value.ownBlock] at h ⊢; exact h⟩
    · simp [go_sem, hck, hc0, sliced]
    · have := restAt13 h 1 (by omega) a (fun h => by omega)
      rwa [hck, Nat.sub_self] at this
  · refine ⟨a.map (fun x => x.add 1), c - 1, fun w' => ?_, fun w' l hl h => ?_, fun k h => ?_⟩
    · simp [go_sem, sliced, h1]
      exact fun h => absurd h hck
    · exact restAt13 h 1 (by omega) _ (fun _ g o e => by subst e; simp [Addr.add])
    · cases a with
      | none => simp [Value.ownBlock] at h
      | some a => simpa [Value.ownBlock, Addr.add] using h

set_option maxHeartbeats 1000000 in
theorem iRight_any (va : Value) (l : List Int) (w : World) (ha : IntsAt w va l) (hl : l.length ≤ 1000000) :
    Calls Try.prog 35 #[va] w fun e w' => e = .returned (.bool (rightB l)) ∧ Below w.heap.size w w' := by
  have hmf : ∀ (fn : Fn) (first cap : Array Value) (w : World), (Instr.makeFunc fn first cap).run Try.prog w = .ok (.func fn first cap) w := fun _ _ _ _ => rfl
  cases l with
  | nil =>
    obtain ⟨a, c, rfl⟩ := ha.form
    have e : rightB [] = true := by decide
    rw [e]
    clear ha
    go_enter Try.func35, Try.ntmps35
    go_wp2
    go_ret
    exact ⟨rfl, Below.refl _ _⟩
  | cons x t =>
    obtain ⟨g, o, c, e, hlc, hg, p0⟩ := ha.spot 0 (by simp)
    subst e
    have hal := (Below.refl w.heap.size w).alloc (Nat.le_refl _) (.cells #[.int .i64 x] 3)
    have hX := Blk.new w [.int .i64 x] 3
    obtain ⟨a4, c4, hsl, hrows, how⟩ := from17 (some ⟨g, o, none⟩) (x :: t).length c (by simp) hlc
    have hr := (hrows _ (x :: t) rfl (ha.below hal).rows).ints
    have hS := iSome_any (J := fun (s : Int) F w' => BoJ w.heap.size (.int .i64 s) F w') rgt 51 (.pointer (some ⟨w.heap.size, 0, none⟩)) (fun _ _ => by kernel_rfl) _ t _ hr (by simp at hl; omega) x
      (fun k => k = w.heap.size) (fun h0 k hk hf => by have := ha.rows.lt (by simp) k (how k hk); omega) ⟨hX, fun k => Iff.rfl⟩ (fun _ _ => True) trivial (fun _ _ _ _ => trivial)
      (fun s F w' y k hx _ _ hj ho => iRight1_any _ s y F w' hj)
    rw [runS_right, List.length_cons, Nat.add_sub_cancel] at hS
    rw [List.length_cons, Nat.add_sub_cancel] at hsl
    have HS := Lib.hid hS
    have HAL := Lib.hid hal
    generalize rightB (x :: t) = r at *
    replace p0 : w.cell? ⟨g, o, none⟩ = some (.int .i64 x) := by simpa using p0
    rw [List.length_cons] at *
    clear hal hX hS ha hr hrows how hg
    generalize t.length = n at *
    have n0 : (0 : Int) ≤ (n : Int) := by omega
    have n1 : ¬ ((n : Int) + 1 = 0) := by omega
    go_enter Try.func35, Try.ntmps35
    go_wp2_with (go_at_call 50; (with_reducible refine HS.out.mono ?_); rintro e w1 ⟨rfl, F', h1, hm⟩; have HM := Lib.hid hm; clear h1 hm)
    go_ret
    exact ⟨by simp, HAL.out.trans (HM.out.only.below (fun k hk => by omega) HAL.out.size)⟩
end Go.Proofs.Ytjmgokjljmmmgaa
/- Stage 17's program: Above; pick. -/
namespace Go.Proofs.Ytjmgokjljmmmgaa
open Go.RowKit

/-- three boxes: n, is there one (ok), the least -/
def AbJ (n : Int) (bn bo bl : Nat) (s : Int × Bool) (F : Nat → Prop) (w : World) : Prop := Blk w bn [.int .i64 n] ∧ Blk w bo [.bool s.2] ∧ Blk w bl [.int .i64 s.1] ∧ ∀ k, F k ↔ k = bn ∨ k = bo ∨ k = bl
theorem ab_keep (n : Int) (bn bo bl : Nat) : KeepJ (AbJ n bn bo bl) where
  lt := by
    rintro s F w ⟨h1, h2, h3, h4⟩ k hk
    rcases (h4 k).1 hk with rfl | rfl | rfl
    · exact h1.lt
    · exact h2.lt
    · exact h3.lt
  out := by
    rintro s F w w' ⟨h1, h2, h3, h4⟩ _ he
    exact ⟨h1.same (he _ ((h4 _).2 (.inl rfl))), h2.same (he _ ((h4 _).2 (.inr (.inl rfl)))), h3.same (he _ ((h4 _).2 (.inr (.inr rfl)))), h4⟩

end Go.Proofs.Ytjmgokjljmmmgaa
/- Stage 17's program: pick: the numbers that are wanted, in a list of one's own. -/
namespace Go.Proofs.Ytjmgokjljmmmgaa
open Go.RowKit

theorem OwnI.same17 {w w' : World} {B : Nat} {v : Value} {l : List Int} (h : OwnI w B v l) (he : ∀ k, v.ownBlock = some k → w'.heap[k]? = w.heap[k]?) : OwnI w' B v l := by
  refine ⟨h.1, ?_⟩
  rcases h.2 with h0 | ⟨g, cap, cur, rfl, hg, hh, rest⟩
  · exact .inl h0
  · exact .inr ⟨g, cap, cur, rfl, hg, (he g rfl).trans hh, rest⟩
theorem OwnI.cells17 {w : World} {B : Nat} {v : Value} {l : List Int} (h : OwnI w B v l) : ∀ k, v.ownBlock = some k → B ≤ k ∧ k < w.heap.size ∧ ∃ cur, w.heap[k]? = some (.cells cur 3) := by
  intro k hk
  rcases h.2 with ⟨rfl, _⟩ | ⟨g, cap, cur, rfl, hg, hh, _⟩
  · simp [Value.ownBlock] at hk
  · simp [Value.ownBlock] at hk
    subst hk
    exact ⟨hg, lt_of_block hh, cur, hh⟩
theorem hset1p {w : World} {b : Nat} {x : Value} {t : TypeId} (h : w.heap[b]? = some (.cells #[x] t)) (x' : Value) : (w.setCell ⟨b, 0, none⟩ x').heap[b]? = some (.cells #[x'] t) := by
  unfold World.setCell
  simp only [Array.getElem?_modify, if_pos, h, Option.map_some]
  rfl
/-- numbers that were picked, in the box q -/
def JP (q : Nat) (t : List Int) (F : Nat → Prop) (w : World) : Prop := ∃ v, w.heap[q]? = some (.cells #[v] 30) ∧ OwnI w 0 v t ∧ ∀ k, F k ↔ k = q ∨ v.ownBlock = some k
theorem jp_keep (q : Nat) : KeepJ (JP q) where
  lt := by
    rintro t F w ⟨v, h1, h2, h3⟩ k hk
    rcases (h3 k).1 hk with rfl | h
    · exact lt_of_block h1
    · exact (OwnI.cells17 h2 k h).2.1
  out := by
    rintro t F w w' ⟨v, h1, h2, h3⟩ _ he
    exact ⟨v, (he q ((h3 q).2 (.inl rfl))).trans h1, OwnI.same17 h2 fun k hk => he k ((h3 k).2 (.inr hk)), h3⟩
theorem jp_ne {q : Nat} {w : World} {v u : Value} {l : List Int} (hr : w.heap[q]? = some (.cells #[u] 30)) (h : OwnI w 0 v l) : v.ownBlock ≠ some q := fun e => by
  obtain ⟨_, _, cur, hc⟩ := OwnI.cells17 h q e
  rw [hr] at hc
  cases hc
/-- beside the box bw of the function that is asked whether a number is wanted -/
def PkJ (bw : Nat) (tv : Value) (bp : Nat) (t : List Int) (F : Nat → Prop) (w : World) : Prop := ∃ Fp, Blk w bw [tv] ∧ ¬ Fp bw ∧ JP bp t Fp w ∧ ∀ k, F k ↔ Fp k ∨ k = bw
theorem pk_keep (bw : Nat) (tv : Value) (bp : Nat) : KeepJ (PkJ bw tv bp) where
  lt := by
    rintro t F w ⟨Fp, h1, h2, h3, h4⟩ k hk
    rcases (h4 k).1 hk with h | rfl
    · exact (jp_keep bp).lt h3 k h
    · exact h1.lt
  out := by
    rintro t F w w' ⟨Fp, h1, h2, h3, h4⟩ hz he
    exact ⟨Fp, h1.same (he bw ((h4 bw).2 (.inr rfl))), h2, (jp_keep bp).out h3 hz fun k hk => he k ((h4 k).2 (.inl hk)), h4⟩

end Go.Proofs.Ytjmgokjljmmmgaa
/-
  DERIVED: THE SHELF's CONTRACTS AT THIS DUMP, IN PLAIN WORDS (tools/lay-plain.mjs out of 'TryShelf.lean', which tools/lay-shelf.mjs wrote): THE SAME DECLARATIONS UNDER THE SAME NAMES: 'import', 'namespace', 'open', 'def', 'theorem' AND NOTHING ELSE: no command of the shelf's: FOR A HAND-IN. Each laying: the table of numbers ('.._ren') and one theorem, a field a fact of the dump's own or the kernel's comparison; each contract: ONE APPLICATION.
-/
namespace Go.Proofs
open Go.Shelf
def Try.lays128_ren : Go.Shelf.Ren := ⟨fun | 128 => 77 | n => n, fun | 51 => 100 | 3 => 3 | 4 => 4 | 46 => 84 | 5 => 5 | 9 => 9 | n => n, fun | n => n⟩
theorem Try.lays128 : Go.Proofs.Lays.n128 Try.prog Try.lays128_ren := {
  mixed := by kernel_rfl
  f128 := Try.func77.trans (congrArg some (by kernel_rfl))
  t3 := Try.underlying3
  a3 := Try.isAgg3
  z3 := Try.sizeOf3
  v3 := Try.zeroValue3
  t4 := Try.underlying4
  a4 := Try.isAgg4
  z4 := Try.sizeOf4
  v4 := Try.zeroValue4
  t5 := Try.underlying5
  a5 := Try.isAgg5
  z5 := Try.sizeOf5
  v5 := Try.zeroValue5
  t9 := Try.underlying9
  a9 := Try.isAgg9
  z9 := Try.sizeOf9
  v9 := Try.zeroValue9
  t46 := Try.underlying84
  a46 := Try.isAgg84
  z46 := Try.sizeOf84
  v46 := Try.zeroValue84
  t51 := Try.underlying100
  a51 := Try.isAgg100
  z51 := Try.sizeOf100
  v51 := Try.zeroValue100 }
/-- bits.Len32: "Len32 returns the minimum number of bits required to represent x; the result is 0 for x == 0.": IT RETURNS 'Lib.bitLen x'; the world is as it was. ('h0', 'h1': x is a uint32.) (LAID: no walk: one application.) -/
theorem Try.bits_Len32 (x : Int) (w : World) (h0 : 0 ≤ x) (h1 : x ≤ 4294967295) :
    Calls Try.prog 77 #[.int .u32 x] w fun e w' => e = .returned (.int .i64 (Lib.bitLen x.toNat)) ∧ w' = w := Any.bits_Len32 Try.lays128 x w h0 h1
def Try.lays125_ren : Go.Shelf.Ren := ⟨fun | 125 => 64 | 128 => 77 | 129 => 78 | n => n, fun | 46 => 84 | 3 => 3 | 51 => 100 | 53 => 102 | 4 => 4 | 5 => 5 | 9 => 9 | n => n, fun | n => n⟩
theorem Try.lays125 : Go.Proofs.Lays.n125 Try.prog Try.lays125_ren := {
  mixed := by kernel_rfl
  f125 := Try.func64.trans (congrArg some (by kernel_rfl))
  f128 := Try.func77.trans (congrArg some (by kernel_rfl))
  f129 := Try.func78.trans (congrArg some (by kernel_rfl))
  t3 := Try.underlying3
  a3 := Try.isAgg3
  z3 := Try.sizeOf3
  v3 := Try.zeroValue3
  t4 := Try.underlying4
  a4 := Try.isAgg4
  z4 := Try.sizeOf4
  v4 := Try.zeroValue4
  t5 := Try.underlying5
  a5 := Try.isAgg5
  z5 := Try.sizeOf5
  v5 := Try.zeroValue5
  t9 := Try.underlying9
  a9 := Try.isAgg9
  z9 := Try.sizeOf9
  v9 := Try.zeroValue9
  t46 := Try.underlying84
  a46 := Try.isAgg84
  z46 := Try.sizeOf84
  v46 := Try.zeroValue84
  t51 := Try.underlying100
  a51 := Try.isAgg100
  z51 := Try.sizeOf100
  v51 := Try.zeroValue100
  t53 := Try.underlying102
  a53 := Try.isAgg102
  z53 := Try.sizeOf102
  v53 := Try.zeroValue102 }
/-- bits.Len: "Len returns the minimum number of bits required to represent x; the result is 0 for x == 0.": IT RETURNS 'Lib.bitLen x'; the world is as it was. (A uint has 64 bits in the model.) ITS CALLEE bits.Len64 IS MET BY ITS OWN CONTRACT OFF THE SHELF (lay that first). (LAID: no walk: one application.) -/
theorem Try.bits_Len (x : Int) (w : World) (h0 : 0 ≤ x) (h1 : x ≤ 18446744073709551615) :
    Calls Try.prog 64 #[.int .u64 x] w fun e w' => e = .returned (.int .i64 (Lib.bitLen x.toNat)) ∧ w' = w := Any.bits_Len Try.lays125 x w h0 h1
def Try.lays215_ren : Go.Shelf.Ren := ⟨fun | 215 => 68 | n => n, fun | 3 => 3 | 4 => 4 | n => n, fun | n => n⟩
theorem Try.lays215 : Go.Proofs.Lays.n215 Try.prog Try.lays215_ren := {
  mixed := by kernel_rfl
  f215 := Try.func68.trans (congrArg some (by kernel_rfl))
  t3 := Try.underlying3
  a3 := Try.isAgg3
  z3 := Try.sizeOf3
  v3 := Try.zeroValue3
  t4 := Try.underlying4
  a4 := Try.isAgg4
  z4 := Try.sizeOf4
  v4 := Try.zeroValue4 }
open Go.RowKit in
/-- cmp.isNaN at int: 'x != x': false. (LAID: no walk: one application.) -/
theorem Try.cmp_isNaN_int (x : Int) (w : World) :
    Calls Try.prog 68 #[.int .i64 x] w fun e w' => e = .returned (.bool false) ∧ w' = w := Any.cmp_isNaN_int Try.lays215 x w
def Try.lays122_ren : Go.Shelf.Ren := ⟨fun | 122 => 95 | 215 => 68 | n => n, fun | 3 => 3 | 4 => 4 | n => n, fun | n => n⟩
theorem Try.lays122 : Go.Proofs.Lays.n122 Try.prog Try.lays122_ren := {
  mixed := by kernel_rfl
  f122 := Try.func95.trans (congrArg some (by kernel_rfl))
  f215 := Try.func68.trans (congrArg some (by kernel_rfl))
  t3 := Try.underlying3
  a3 := Try.isAgg3
  z3 := Try.sizeOf3
  v3 := Try.zeroValue3
  t4 := Try.underlying4
  a4 := Try.isAgg4
  z4 := Try.sizeOf4
  v4 := Try.zeroValue4 }
open Go.RowKit in
/-- cmp.Compare at int: "Compare returns -1 if x is less than y, 0 if x equals y, +1 if x is greater than y.": IT RETURNS 'Lib.compareInt x y'; the world is as it was. (LAID: no walk: one application.) -/
theorem Try.cmp_Compare_int (x y : Int) (w : World) :
    Calls Try.prog 95 #[.int .i64 x, .int .i64 y] w fun e w' => e = .returned (.int .i64 (Lib.compareInt x y)) ∧ w' = w := Any.cmp_Compare_int Try.lays122 x y w
def Try.lays129_ren : Go.Shelf.Ren := ⟨fun | 129 => 78 | n => n, fun | 53 => 102 | 3 => 3 | 4 => 4 | 46 => 84 | 5 => 5 | 9 => 9 | n => n, fun | n => n⟩
theorem Try.lays129 : Go.Proofs.Lays.n129 Try.prog Try.lays129_ren := {
  mixed := by kernel_rfl
  f129 := Try.func78.trans (congrArg some (by kernel_rfl))
  t3 := Try.underlying3
  a3 := Try.isAgg3
  z3 := Try.sizeOf3
  v3 := Try.zeroValue3
  t4 := Try.underlying4
  a4 := Try.isAgg4
  z4 := Try.sizeOf4
  v4 := Try.zeroValue4
  t5 := Try.underlying5
  a5 := Try.isAgg5
  z5 := Try.sizeOf5
  v5 := Try.zeroValue5
  t9 := Try.underlying9
  a9 := Try.isAgg9
  z9 := Try.sizeOf9
  v9 := Try.zeroValue9
  t46 := Try.underlying84
  a46 := Try.isAgg84
  z46 := Try.sizeOf84
  v46 := Try.zeroValue84
  t53 := Try.underlying102
  a53 := Try.isAgg102
  z53 := Try.sizeOf102
  v53 := Try.zeroValue102 }
/-- bits.Len64: "Len64 returns the minimum number of bits required to represent x; the result is 0 for x == 0.": IT RETURNS 'Lib.bitLen x'; the world is as it was. ('h0', 'h1': x is a uint64.) (LAID: no walk: one application.) -/
theorem Try.bits_Len64 (x : Int) (w : World) (h0 : 0 ≤ x) (h1 : x ≤ 18446744073709551615) :
    Calls Try.prog 78 #[.int .u64 x] w fun e w' => e = .returned (.int .i64 (Lib.bitLen x.toNat)) ∧ w' = w := Any.bits_Len64 Try.lays129 x w h0 h1
def Try.lays189_ren : Go.Shelf.Ren := ⟨fun | 189 => 54 | 125 => 64 | 257 => 63 | 128 => 77 | 129 => 78 | 294 => 69 | 295 => 70 | 296 => 71 | 297 => 72 | 298 => 73 | 299 => 74 | 216 => 61 | 300 => 75 | 301 => 76 | 328 => 82 | 329 => 83 | 330 => 84 | 331 => 85 | 332 => 86 | 215 => 68 | 343 => 90 | n => n, fun | 28 => 30 | 3 => 3 | 46 => 84 | 0 => 0 | 51 => 100 | 53 => 102 | 4 => 4 | 183 => 94 | 182 => 93 | 131 => 53 | 5 => 5 | 9 => 9 | 218 => 107 | 222 => 111 | 228 => 114 | 229 => 115 | n => n, fun | n => n⟩
theorem Try.lays189 : Go.Proofs.Lays.n189 Try.prog Try.lays189_ren := {
  mixed := by kernel_rfl
  f125 := Try.func64.trans (congrArg some (by kernel_rfl))
  f128 := Try.func77.trans (congrArg some (by kernel_rfl))
  f129 := Try.func78.trans (congrArg some (by kernel_rfl))
  f189 := Try.func54.trans (congrArg some (by kernel_rfl))
  f215 := Try.func68.trans (congrArg some (by kernel_rfl))
  f216 := Try.func61.trans (congrArg some (by kernel_rfl))
  f257 := Try.func63.trans (congrArg some (by kernel_rfl))
  f294 := Try.func69.trans (congrArg some (by kernel_rfl))
  f295 := Try.func70.trans (congrArg some (by kernel_rfl))
  f296 := Try.func71.trans (congrArg some (by kernel_rfl))
  f297 := Try.func72.trans (congrArg some (by kernel_rfl))
  f298 := Try.func73.trans (congrArg some (by kernel_rfl))
  f299 := Try.func74.trans (congrArg some (by kernel_rfl))
  f300 := Try.func75.trans (congrArg some (by kernel_rfl))
  f301 := Try.func76.trans (congrArg some (by kernel_rfl))
  f328 := Try.func82.trans (congrArg some (by kernel_rfl))
  f329 := Try.func83.trans (congrArg some (by kernel_rfl))
  f330 := Try.func84.trans (congrArg some (by kernel_rfl))
  f331 := Try.func85.trans (congrArg some (by kernel_rfl))
  f332 := Try.func86.trans (congrArg some (by kernel_rfl))
  f343 := Try.func90.trans (congrArg some (by kernel_rfl))
  t0 := Try.underlying0
  a0 := Try.isAgg0
  z0 := Try.sizeOf0
  v0 := Try.zeroValue0
  t3 := Try.underlying3
  a3 := Try.isAgg3
  z3 := Try.sizeOf3
  v3 := Try.zeroValue3
  t4 := Try.underlying4
  a4 := Try.isAgg4
  z4 := Try.sizeOf4
  v4 := Try.zeroValue4
  t5 := Try.underlying5
  a5 := Try.isAgg5
  z5 := Try.sizeOf5
  v5 := Try.zeroValue5
  t9 := Try.underlying9
  a9 := Try.isAgg9
  z9 := Try.sizeOf9
  v9 := Try.zeroValue9
  t28 := Try.underlying30
  a28 := Try.isAgg30
  z28 := Try.sizeOf30
  v28 := Try.zeroValue30
  t46 := Try.underlying84
  a46 := Try.isAgg84
  z46 := Try.sizeOf84
  v46 := Try.zeroValue84
  t51 := Try.underlying100
  a51 := Try.isAgg100
  z51 := Try.sizeOf100
  v51 := Try.zeroValue100
  t53 := Try.underlying102
  a53 := Try.isAgg102
  z53 := Try.sizeOf102
  v53 := Try.zeroValue102
  t131 := Try.underlying53
  a131 := Try.isAgg53
  z131 := Try.sizeOf53
  v131 := Try.zeroValue53
  t182 := Try.underlying93
  a182 := Try.isAgg93
  z182 := Try.sizeOf93
  v182 := Try.zeroValue93
  t183 := Try.underlying94
  a183 := Try.isAgg94
  z183 := Try.sizeOf94
  v183 := Try.zeroValue94
  t218 := Try.underlying107
  a218 := Try.isAgg107
  z218 := Try.sizeOf107
  v218 := Try.zeroValue107
  t222 := Try.underlying111
  a222 := Try.isAgg111
  z222 := Try.sizeOf111
  v222 := Try.zeroValue111
  t228 := Try.underlying114
  a228 := Try.isAgg114
  z228 := Try.sizeOf114
  v228 := Try.zeroValue114
  t229 := Try.underlying115
  a229 := Try.isAgg115
  z229 := Try.sizeOf115
  v229 := Try.zeroValue115 }
open Go.Sort Go.RowKit in
theorem Try.slices_Sort_int (blk off cap : Nat) (zs : List Int) (w : World) (hH : Holds (Value.int .i64) w blk off zs.toArray) (hblk : blk < w.heap.size) (hsz : zs.length < 4611686018427387904) :
    Calls Try.prog 54 #[.slice (some ⟨blk, off, none⟩) zs.length cap] w fun e w' =>
      e = .returned (.tuple #[]) ∧ ∃ n os, w' = grow (putRow (Value.int .i64) (Sort.ahead w n) blk off (zs.mergeSort fun x y => decide (x ≤ y)).toArray) os := Any.slices_Sort_int Try.lays189 blk off cap zs w hH hblk hsz
def Try.laysNm215_ren : Go.Shelf.Ren := ⟨fun | 15 => 53 | n => n, fun | 22 => 30 | 3 => 3 | 4 => 4 | n => n, fun | n => n⟩
theorem Try.laysNm215 : Go.Proofs.Lays2.n15 Try.prog Try.laysNm215_ren := {
  mixed := by kernel_rfl
  f15 := Try.func53.trans (congrArg some (by kernel_rfl))
  t3 := Try.underlying3
  a3 := Try.isAgg3
  z3 := Try.sizeOf3
  v3 := Try.zeroValue3
  t4 := Try.underlying4
  a4 := Try.isAgg4
  z4 := Try.sizeOf4
  v4 := Try.zeroValue4
  t22 := Try.underlying30
  a22 := Try.isAgg30
  z22 := Try.sizeOf30
  v22 := Try.zeroValue30
  i3 := by kernel_rfl }
open Go.RowKit Go.Lib in
/-- slices.Clone at []int: "Clone returns a copy of the slice. The elements are copied using assignment, so this is a shallow clone. The result may have additional unused capacity. The result preserves the nilness of s.": OF A SLICE THAT IS NOT nil IT RETURNS A SLICE THAT IS NOT nil, OF THE SAME ELEMENTS, IN MEMORY OF THE CALL's OWN: in the how-to's words (6f): 'w'.ownsRow B e 1 v' n cells': v' begins at the head of a row among the blocks from B on (B: the heap's size at the call), not frozen, whose first cells are the elements · 'Below B w w'': below B all is as it was. The capacity is whatever the run-time gives. 'zs': what the cells behind the slice's address hold; 'zs.take n': its elements. (LAID: no walk: one application.) -/
theorem Try.slices_Clone_int (b off n c : Nat) (zs : List Int) (w : World) (hz : n ≤ zs.length) (hbig : n * 8 ≤ 140737488355328) (hc : ∀ j, j < zs.length → w.cell? ⟨b, off + j, none⟩ = some (.int .i64 (zs.getD j 0))) :
    Calls Try.prog 53 #[.slice (some ⟨b, off, none⟩) n c] w fun e w' => ∃ v', e = .returned v' ∧ w'.ownsRow w.heap.size 3 1 v' n ((zs.take n).map (Value.int .i64)) ∧ v' ≠ .slice none 0 0 ∧ Below w.heap.size w w' := Any.slices_Clone_int Try.laysNm215 b off n c zs w hz hbig hc
open Go.RowKit Go.Lib in
/-- The same at nil: nil comes back; the world is as it was. (LAID: no walk: one application.) -/
theorem Try.slices_Clone_int_nil (n c : Nat) (w : World) :
    Calls Try.prog 53 #[.slice none n c] w fun e w' => e = .returned (.slice none 0 0) ∧ w' = w := Any.slices_Clone_int_nil Try.laysNm215 n c w
open Go.RowKit Go.Lib in
/-- The same at a slice of length 0 that is not nil, WHATEVER ITS ADDRESS (no cell is asked for): a slice that is not nil and owns nothing comes back. (LAID: no walk: one application.) -/
theorem Try.slices_Clone_int_zero (a : Addr) (c : Nat) (w : World) :
    Calls Try.prog 53 #[.slice (some a) 0 c] w fun e w' => ∃ v', e = .returned v' ∧ w'.ownsRow w.heap.size 3 1 v' 0 [] ∧ v' ≠ .slice none 0 0 ∧ Below w.heap.size w w' := Any.slices_Clone_int_zero Try.laysNm215 a c w
def Try.laysNm220_ren : Go.Shelf.Ren := ⟨fun | 20 => 55 | n => n, fun | 22 => 30 | 3 => 3 | 4 => 4 | 0 => 0 | n => n, fun | n => n⟩
theorem Try.laysNm220 : Go.Proofs.Lays2.n20 Try.prog Try.laysNm220_ren := {
  mixed := by kernel_rfl
  f20 := Try.func55.trans (congrArg some (by kernel_rfl))
  t0 := Try.underlying0
  a0 := Try.isAgg0
  z0 := Try.sizeOf0
  v0 := Try.zeroValue0
  t3 := Try.underlying3
  a3 := Try.isAgg3
  z3 := Try.sizeOf3
  v3 := Try.zeroValue3
  t4 := Try.underlying4
  a4 := Try.isAgg4
  z4 := Try.sizeOf4
  v4 := Try.zeroValue4
  t22 := Try.underlying30
  a22 := Try.isAgg30
  z22 := Try.sizeOf30
  v22 := Try.zeroValue30
  i3 := by kernel_rfl }
open Go.RowKit Go.Lib Go.Sort in
/-- slices.Compact at []int, over an array: the library's two loops are walked. (LAID: no walk: one application.) -/
theorem Try.slices_Compact_int_arr (blk off cap : Nat) (d : Array Int) (w : World) (hH : Holds encI w blk off d) (hsz : d.size ≤ 9223372036854775807) (hcap : d.size ≤ cap) :
    Calls Try.prog 55 #[.slice (some ⟨blk, off, none⟩) d.size cap] w fun e w' => e = .returned (.slice (some ⟨blk, off, none⟩) (compactUpTo d d.size).length cap) ∧ ∃ q, w' = putRow encI (Sort.ahead w q) blk off (compactUpTo d d.size ++ List.replicate (d.size - (compactUpTo d d.size).length) 0).toArray := Any.slices_Compact_int_arr Try.laysNm220 blk off cap d w hH hsz hcap
open Go.RowKit Go.Lib Go.Sort in
/-- slices.Compact at []int: "Compact replaces consecutive runs of equal elements with a single copy. This is like the uniq command found on Unix. Compact modifies the contents of the slice s and returns the modified slice, which may have a smaller length. Compact zeroes the elements between the new length and the original length. The result preserves the nilness of s.": IT RETURNS THE SLICE CUT TO 'Lib.compact zs'; ITS CELLS HOLD 'Lib.compact zs', THEN ZERO VALUES up to the old length; all else is as it was, but for the count of draws. IN THE WORDS OF slices.Sort's CONTRACT ('Holds', 'putRow'): so the everyday 'slices.Sort(xs); xs = slices.Compact(xs)' goes from the one contract to the other. It asks 'zs.length ≤ cap' (every slice's: the reslicing 's[:k]' looks at it). Length 0, nil: '.._empty'. (LAID: no walk: one application.) -/
theorem Try.slices_Compact_int (blk off cap : Nat) (zs : List Int) (w : World) (hH : Holds (Value.int .i64) w blk off zs.toArray) (hsz : zs.length ≤ 9223372036854775807) (hcap : zs.length ≤ cap) :
    Calls Try.prog 55 #[.slice (some ⟨blk, off, none⟩) zs.length cap] w fun e w' => e = .returned (.slice (some ⟨blk, off, none⟩) (Lib.compact zs).length cap) ∧ ∃ q, w' = putRow (Value.int .i64) (Sort.ahead w q) blk off (Lib.compact zs ++ List.replicate (zs.length - (Lib.compact zs).length) 0).toArray := Any.slices_Compact_int Try.laysNm220 blk off cap zs w hH hsz hcap
open Go.RowKit Go.Lib Go.Sort in
/-- The same at a slice of length 0, a nil one too: it comes back as it is. (LAID: no walk: one application.) -/
theorem Try.slices_Compact_int_empty (a : Option Addr) (cap : Nat) (w : World) :
    Calls Try.prog 55 #[.slice a 0 cap] w fun e w' => e = .returned (.slice a 0 cap) ∧ w' = w := Any.slices_Compact_int_empty Try.laysNm220 a cap w
def Try.laysNm237_ren : Go.Shelf.Ren := ⟨fun | 37 => 68 | n => n, fun | 3 => 3 | 4 => 4 | n => n, fun | n => n⟩
theorem Try.laysNm237 : Go.Proofs.Lays2.n37 Try.prog Try.laysNm237_ren := {
  mixed := by kernel_rfl
  f37 := Try.func68.trans (congrArg some (by kernel_rfl))
  t3 := Try.underlying3
  a3 := Try.isAgg3
  z3 := Try.sizeOf3
  v3 := Try.zeroValue3
  t4 := Try.underlying4
  a4 := Try.isAgg4
  z4 := Try.sizeOf4
  v4 := Try.zeroValue4 }
open Go.RowKit Go.Lib in
/-- cmp.isNaN[int]: 'x != x': false. (LAID: no walk: one application.) -/
theorem Try.cmp_isNaN_int2 (x : Int) (w : World) :
    Calls Try.prog 68 #[.int .i64 x] w fun e w' => e = .returned (.bool false) ∧ w' = w := Any.cmp_isNaN_int2 Try.laysNm237 x w
def Try.laysNm232_ren : Go.Shelf.Ren := ⟨fun | 32 => 62 | n => n, fun | 3 => 3 | 4 => 4 | n => n, fun | n => n⟩
theorem Try.laysNm232 : Go.Proofs.Lays2.n32 Try.prog Try.laysNm232_ren := {
  mixed := by kernel_rfl
  f32 := Try.func62.trans (congrArg some (by kernel_rfl))
  t3 := Try.underlying3
  a3 := Try.isAgg3
  z3 := Try.sizeOf3
  v3 := Try.zeroValue3
  t4 := Try.underlying4
  a4 := Try.isAgg4
  z4 := Try.sizeOf4
  v4 := Try.zeroValue4 }
open Go.RowKit Go.Lib in
/-- slices.isNaN[int]: 'x != x': false. (LAID: no walk: one application.) -/
theorem Try.slices_isNaN_int2 (x : Int) (w : World) :
    Calls Try.prog 62 #[.int .i64 x] w fun e w' => e = .returned (.bool false) ∧ w' = w := Any.slices_isNaN_int2 Try.laysNm232 x w
def Try.laysNm231_ren : Go.Shelf.Ren := ⟨fun | 31 => 61 | 37 => 68 | n => n, fun | 3 => 3 | 4 => 4 | n => n, fun | n => n⟩
theorem Try.laysNm231 : Go.Proofs.Lays2.n31 Try.prog Try.laysNm231_ren := {
  mixed := by kernel_rfl
  f31 := Try.func61.trans (congrArg some (by kernel_rfl))
  f37 := Try.func68.trans (congrArg some (by kernel_rfl))
  t3 := Try.underlying3
  a3 := Try.isAgg3
  z3 := Try.sizeOf3
  v3 := Try.zeroValue3
  t4 := Try.underlying4
  a4 := Try.isAgg4
  z4 := Try.sizeOf4
  v4 := Try.zeroValue4 }
open Go.RowKit Go.Lib in
/-- cmp.Less[int]: "Less reports whether x is less than y.": 'x < y'; the world is as it was. (LAID: no walk: one application.) -/
theorem Try.cmp_Less_int2 (x y : Int) (w : World) :
    Calls Try.prog 61 #[.int .i64 x, .int .i64 y] w fun e w' => e = .returned (.bool (decide (x < y))) ∧ w' = w := Any.cmp_Less_int2 Try.laysNm231 x y w
def Try.laysNm225_ren : Go.Shelf.Ren := ⟨fun | 25 => 52 | 31 => 61 | 32 => 62 | 37 => 68 | n => n, fun | 22 => 30 | 3 => 3 | 4 => 4 | 40 => 84 | 0 => 0 | n => n, fun | n => n⟩
theorem Try.laysNm225 : Go.Proofs.Lays2.n25 Try.prog Try.laysNm225_ren := {
  mixed := by kernel_rfl
  f25 := Try.func52.trans (congrArg some (by kernel_rfl))
  f31 := Try.func61.trans (congrArg some (by kernel_rfl))
  f32 := Try.func62.trans (congrArg some (by kernel_rfl))
  f37 := Try.func68.trans (congrArg some (by kernel_rfl))
  t0 := Try.underlying0
  a0 := Try.isAgg0
  z0 := Try.sizeOf0
  v0 := Try.zeroValue0
  t3 := Try.underlying3
  a3 := Try.isAgg3
  z3 := Try.sizeOf3
  v3 := Try.zeroValue3
  t4 := Try.underlying4
  a4 := Try.isAgg4
  z4 := Try.sizeOf4
  v4 := Try.zeroValue4
  t22 := Try.underlying30
  a22 := Try.isAgg30
  z22 := Try.sizeOf30
  v22 := Try.zeroValue30
  t40 := Try.underlying84
  a40 := Try.isAgg84
  z40 := Try.sizeOf84
  v40 := Try.zeroValue84 }
open Go.RowKit Go.Lib in
/-- slices.BinarySearch at []int: "BinarySearch searches for target in a sorted slice and returns the earliest position where target is found, or the position where target would appear in the sort order; it also returns a bool saying whether the target is really found in the slice. The slice must be sorted in increasing order.": OF A SORTED SLICE IT RETURNS how many elements are less than the target, and whether the target is among the elements; the world is as it was but for the count of draws. 'zs': what the cells behind the slice's address hold; 'zs.take n': its elements. (Of a slice that is not sorted: no contract here.) (LAID: no walk: one application.) -/
theorem Try.slices_BinarySearch_int (b off n c : Nat) (zs : List Int) (x : Int) (w : World) (hz : n ≤ zs.length) (hbig : n < 4611686018427387904) (hc : ∀ j, j < zs.length → w.cell? ⟨b, off + j, none⟩ = some (.int .i64 (zs.getD j 0))) (hs : (zs.take n).Pairwise (· ≤ ·)) :
    Calls Try.prog 52 #[.slice (some ⟨b, off, none⟩) n c, .int .i64 x] w fun e w' => e = .returned (.tuple #[.int .i64 ((zs.take n).countP (· < x) : Nat), .bool ((zs.take n).contains x)]) ∧ ∃ q, w' = w.drewN q := Any.slices_BinarySearch_int Try.laysNm225 b off n c zs x w hz hbig hc hs
open Go.RowKit Go.Lib Go.Sort in
/-- slices.Compact at []int, of an argument: the slice cut to 'Lib.compact (elements)'; the n cells hold that, then zeros. (LAID: no walk: one application.) -/
theorem Try.slices_Compact_int_cells (b off n c : Nat) (zs : List Int) (w : World) (hz : n ≤ zs.length) (hbig : n ≤ 9223372036854775807) (hcap : n ≤ c) (hc : ∀ j, j < zs.length → w.cell? ⟨b, off + j, none⟩ = some (.int .i64 (zs.getD j 0))) (hf : ∀ j, j < n → w.frozen? ⟨b, off + j, none⟩ = false) :
    Calls Try.prog 55 #[.slice (some ⟨b, off, none⟩) n c] w fun e w' => e = .returned (.slice (some ⟨b, off, none⟩) (Lib.compact (zs.take n)).length c) ∧ ∃ q, w' = (w.drewN q).setCells b off ((Lib.compact (zs.take n) ++ List.replicate (n - (Lib.compact (zs.take n)).length) 0).map (Value.int .i64)) := Any.slices_Compact_int_cells Try.laysNm220 b off n c zs w hz hbig hcap hc hf
open Go.RowKit Go.Sort in
/-- .. and plain. (LAID: no walk: one application.) -/
theorem Try.slices_Sort_int_none (p : Option Addr) (cap : Nat) (w : World) :
    Calls Try.prog 54 #[.slice p 0 cap] w fun e w' => e = .returned (.tuple #[]) ∧ w' = w := Any.slices_Sort_int_none Try.lays189 p cap w
open Go.RowKit Go.Lib in
/-- slices.BinarySearch at []int of no element: position 0, not found; the world is as it was. (LAID: no walk: one application.) -/
theorem Try.slices_BinarySearch_int_empty (a : Option Addr) (c : Nat) (x : Int) (w : World) :
    Calls Try.prog 52 #[.slice a 0 c, .int .i64 x] w fun e w' => e = .returned (.tuple #[.int .i64 0, .bool false]) ∧ w' = w := Any.slices_BinarySearch_int_empty Try.laysNm225 a c x w
end Go.Proofs
/- slices.Clone, slices.Sort and slices.Compact at []int: a copy of one's own, in place, each once; nothing else is touched. FOR ALL LATER STAGES. -/
namespace Go.Proofs.Ytjmgokjljmmmgaa
open Go.RowKit Go.Sort

theorem only_row {blk off n : Nat} {w : World} {d : Array Int} {os : Array Obj} : Only (fun k => k = blk) w (grow (putRow (Value.int .i64) (Sort.ahead w n) blk off d) os) := by
  refine ⟨rfl, rfl, rfl, by simp, fun k hk hne => ?_⟩
  rw [heap_grow_old _ _ (by simp; omega)]
  have : blk ≠ k := fun e => hne e.symm
  simp [putRow, mapBlock, Sort.ahead, Array.getElem?_modify, this]
theorem only_row' {blk off n : Nat} {w : World} {d : Array Int} : Only (fun k => k = blk) w (putRow (Value.int .i64) (Sort.ahead w n) blk off d) := by
  have := only_row (w := w) (n := n) (blk := blk) (off := off) (d := d) (os := #[])
  rwa [grow_empty] at this
/-- sorted, and each once: in place -/
theorem sortI_any (w : World) (B : Nat) (v : Value) (l : List Int) (h : OwnI w B v l) (hl : l.length ≤ 1000000) :
    Calls Try.prog 54 #[v] w fun e w' => e = .returned (.tuple #[]) ∧ IntsAt w' v (l.mergeSort fun x y => decide (x ≤ y)) ∧ Only (fun k => v.ownBlock = some k) w w' ∧
      Calls Try.prog 55 #[v] w' fun e w'' => ∃ u, e = .returned u ∧ IntsAt w'' u (Lib.compact (l.mergeSort fun x y => decide (x ≤ y))) ∧ u.ownBlock = v.ownBlock ∧ Only (fun k => v.ownBlock = some k) w w'' := by
  by_cases h0 : l.length = 0
  · obtain ⟨p, c, rfl⟩ := h.ints.form
    have hnil : l = [] := List.eq_nil_of_length_eq_zero h0
    have hs : (l.mergeSort fun x y => decide (x ≤ y)) = [] := List.eq_nil_of_length_eq_zero (by rw [List.length_mergeSort]; exact h0)
    have hc : Lib.compact (l.mergeSort fun x y => decide (x ≤ y)) = [] := List.eq_nil_of_length_eq_zero (by have h1 := Lib.compact_length_le (l.mergeSort fun x y => decide (x ≤ y)); rw [List.length_mergeSort] at h1; omega)
    have hi := h.ints
    rw [h0, hc, hs]
    rw [hnil] at hi
    refine (Try.slices_Sort_int_none p c w).mono ?_
    rintro e w1 ⟨rfl, rfl⟩
    refine ⟨rfl, hi, Only.refl _ _, (Try.slices_Compact_int_empty p c w1).mono ?_⟩
    rintro e w2 ⟨rfl, rfl⟩
    exact ⟨_, rfl, hi, rfl, Only.refl _ _⟩
  · obtain ⟨g, cap, rfl, hBg, hg, hcap, hH⟩ := h.holds (by omega)
    have hlen : (l.mergeSort fun x y => decide (x ≤ y)).length = l.length := List.length_mergeSort l
    have hgs : ∀ k, k = g → (Value.slice (some ⟨g, 0, none⟩) l.length cap).ownBlock = some k := fun k e => by rw [e]; rfl
    refine (Try.slices_Sort_int g 0 cap l w hH hg (by omega)).mono ?_
    rintro e w1 ⟨rfl, n, os, rfl⟩
    have hS := holds_sorted (n := n) (os := os) hH hg
    have hC := Try.slices_Compact_int g 0 cap (l.mergeSort fun x y => decide (x ≤ y)) _ hS (by omega) (by omega)
    have hI := fun q => ints_compact (n := n) (q := q) (os := os) hH hg hcap
    have hO := only_row (w := w) (n := n) (blk := g) (off := 0) (d := (l.mergeSort fun x y => decide (x ≤ y)).toArray) (os := os)
    refine ⟨rfl, ?_, hO.mono hgs, ?_⟩
    · have := ints_of_holds (zs := l.mergeSort fun x y => decide (x ≤ y)) (cap := cap) hS (Nat.lt_of_lt_of_le hg hO.size) (fun j x hj => by
        have hjl := (List.getElem?_eq_some_iff.1 hj).1
        refine ⟨by simpa using hjl, ?_⟩
        rw [getElem!_pos _ _ (by simpa using hjl)]
        rw [List.getElem?_eq_getElem hjl] at hj
        simpa using Option.some.inj hj) (by omega)
      rwa [hlen] at this
    · rw [hlen] at hC
      refine hC.mono ?_
      rintro e w2 ⟨rfl, q, rfl⟩
      refine ⟨_, rfl, ?_, rfl, (hO.trans only_row').mono hgs⟩
      have := hI q
      rw [hlen] at this
      exact this

set_option maxHeartbeats 1000000 in
/-- a copy of one's own -/
theorem cloneI_any (va : Value) (l : List Int) (w : World) (h : IntsAt w va l) (hn : l.length ≤ 1000000) :
    Calls Try.prog 53 #[va] w fun e w' => ∃ v', e = .returned v' ∧ OwnI w' w.heap.size v' l ∧ Below w.heap.size w w' := by
  obtain ⟨a, c, rfl⟩ := h.form
  cases a with
  | none =>
    have hl : l = [] := by
      obtain ⟨a, cap, e, hc, hx⟩ := h
      cases e
      cases l with
      | nil => rfl
      | cons x t => obtain ⟨g, o, e, _⟩ := hx (by simp); cases e
    subst hl
    have he : (binOp BinOp.eql 30 (.slice none 0 c) (.slice none 0 0)).run Try.prog w = .ok (.bool true) w := by kernel_rfl
    clear h
    go_enter Try.func53, Try.ntmps53
    go_wp2
    go_ret
    exact ⟨_, rfl, OwnR.nil _ _ _ _ _, Below.refl _ _⟩
  | some g =>
    obtain ⟨i0, hi, hz0, hz1, hz2⟩ := info_parts info_int
    have hal := (Below.refl w.heap.size w).alloc (Nat.le_refl _) (.cells #[] 3)
    have HR := Lib.hid (RowsAt.kept h.rows hal)
    have HO := Lib.hid (OwnR.empty w 1 csI 3 w.heap.size rfl)
    have HB := Lib.hid hal
    have he : (binOp BinOp.eql 30 (.slice (some g) l.length c) (.slice none 0 0)).run Try.prog w = .ok (.bool false) w := by kernel_rfl
    clear h hal
    go_enter Try.func53, Try.ntmps53
    go_wp2_with (at_builtin; refine wpList_append_rows csI_len (by decide) csI_one13 rfl _ _ 30 rfl w.heap.size 3 i0 (.int .i64 0) 8 Try.underlying30 hi hz0 hz1 hz2 rfl _ _ rfl HO.out _ l rfl HR.out (by unfold maxLen; simp; omega) (by simp; omega) HB.out.size ?_; intro v2 w2 o2 g2; have HO2 := Lib.hid o2; have HB2 := Lib.hid (OwnR.below HO.out HB.out HB.out.size g2); clear o2 g2)
    go_ret
    exact ⟨_, rfl, HO2.out, HB2.out⟩
end Go.Proofs.Ytjmgokjljmmmgaa
/- Lists of lists of numbers; rows of numbers that are brought into new memory (slices.Grow, slices.Concat at []int). FOR ALL LATER STAGES. -/
namespace Go.Proofs.Ytjmgokjljmmmgaa
open Go.RowKit

/-- a list of lists of numbers -/
def IssAt (w : World) (v : Value) (L : List (List Int)) : Prop := ∃ ts : List Sl, RowsAt w 1 csS v ts ∧ ts.length = L.length ∧ ∀ (j : Nat) (t : Sl) (l : List Int), ts[j]? = some t → L[j]? = some l → RowsAt w 1 csI (sl t) l
theorem IssAt.kept {w w' : World} {v : Value} {L : List (List Int)} (h : IssAt w v L) (hb : Below w.heap.size w w') : IssAt w' v L := by
  obtain ⟨ts, h1, h2, h3⟩ := h
  exact ⟨ts, h1.kept hb, h2, fun j t l e1 e2 => (h3 j t l e1 e2).kept hb⟩
theorem IssAt.form {w : World} {v : Value} {L : List (List Int)} (h : IssAt w v L) : ∃ a c, v = .slice a L.length c := by
  obtain ⟨ts, h1, h2, _⟩ := h
  obtain ⟨a, c, e⟩ := h1.form
  rw [h2] at e
  exact ⟨a, c, e⟩
theorem IssAt.at {w : World} {v : Value} {L : List (List Int)} (h : IssAt w v L) (k : Nat) (hk : k < L.length) :
    ∃ g o c a n, v = .slice (some ⟨g, o, none⟩) L.length c ∧ g < w.heap.size ∧ w.cell? ⟨g, o + k, none⟩ = some (.slice a L[k].length n) ∧ RowsAt w 1 csI (.slice a L[k].length n) L[k] := by
  obtain ⟨ts, h1, h2, h3⟩ := h
  obtain ⟨a, c, e, hc, hx⟩ := h1
  have hkt : k < ts.length := by rw [h2]; exact hk
  obtain ⟨g, o, e', hg, hcell⟩ := hx (by omega)
  subst e'
  have hb := h3 k ts[k] L[k] (List.getElem?_eq_getElem hkt) (List.getElem?_eq_getElem hk)
  obtain ⟨a', n, e2⟩ := RowsAt.form hb
  have hcl := hcell k ts[k] (List.getElem?_eq_getElem hkt) 0 (sl ts[k]) rfl
  rw [e2] at hb hcl
  rw [h2] at e
  rw [Nat.mul_one, Nat.add_zero] at hcl
  exact ⟨g, o, c, a', n, e, hg, hcl, hb⟩
/-- two lists that a call gathers -/
theorem iss_two {w : World} {va vb : Value} {l r : List Int} (ha : RowsAt w 1 csI va l) (hb : RowsAt w 1 csI vb r) (T : TypeId) : IssAt (w.alloc (.cells #[va, vb] T)) (.slice (some ⟨w.heap.size, 0, none⟩) 2 2) [l, r] := by
  have hB := (Below.refl w.heap.size w).alloc (Nat.le_refl _) (.cells #[va, vb] T)
  have ha := ha.kept hB
  have hb := hb.kept hB
  obtain ⟨a, c, rfl⟩ := RowsAt.form ha
  obtain ⟨a', c', rfl⟩ := RowsAt.form hb
  refine ⟨[(a, l.length, c), (a', r.length, c')], ⟨_, 2, rfl, by simp, fun _ => ⟨_, _, rfl, by simp, fun j x hj i u hu => ?_⟩⟩, rfl, fun j t m h1 h2 => ?_⟩
  · rcases j with _ | _ | j
    · simp at hj; subst hj
      rcases i with _ | i
      · simp [csS, sl] at hu; subst hu; simp [World.cell?_alloc_at]
      · simp [csS] at hu
    · simp at hj; subst hj
      rcases i with _ | i
      · simp [csS, sl] at hu; subst hu; simp [World.cell?_alloc_at]
      · simp [csS] at hu
    · simp at hj
  · rcases j with _ | _ | j
    · simp at h1 h2; subst h1; subst h2; exact ha
    · simp at h1 h2; subst h1; subst h2; exact hb
    · simp at h1

/-- all of them, one behind the other -/
def catI (L : List (List Int)) : List Int := L.flatten
theorem catI_next (L : List (List Int)) (k : Nat) (h : k < L.length) : catI (L.take (k + 1)) = catI (L.take k) ++ L[k] := by
  unfold catI
  rw [List.take_succ_eq_append_getElem h, List.flatten_append]
  simp
theorem catI_le (L : List (List Int)) (k : Nat) : (catI (L.take k)).length ≤ (catI L).length := by
  have : catI L = catI (L.take k) ++ catI (L.drop k) := by
    unfold catI
    rw [← List.flatten_append, List.take_append_drop]
  rw [this, List.length_append]
  omega

end Go.Proofs.Ytjmgokjljmmmgaa
/- The laws of layer 17 (sets of numbers), over the program's contracts as one structure. -/
namespace Go.Proofs.Ytjmgokjljmmmgaa
open Go.RowKit

end Go.Proofs.Ytjmgokjljmmmgaa
/- Stage 17's program: Of; what is in a list (among), what is beside it; And, Less, Within, Or; the contracts as one. -/
namespace Go.Proofs.Ytjmgokjljmmmgaa
open Go.RowKit

theorem store_func (P : Program) (w : World) (a : Addr) (m : Mode) (f : Fn) (x y : Array Value) : (store a (.func f x y) m).run P w = stored P w a (.func f x y) m := run_store P w a _ m rfl
attribute [local go_sem] store_func
theorem below_drew17 {w : World} : ∀ q, Below w.heap.size w (w.drewN q)
  | 0 => Below.refl _ _
  | q + 1 => (below_drew17 q).drew

/-- what is in a list: its numbers in order, in the box p -/
def AmAt (w : World) (p : Nat) (b : List Int) : Prop := ∃ v, Blk w p [v] ∧ IntsAt w v (setL b)
theorem AmAt.kept {w w' : World} {p : Nat} {b : List Int} (h : AmAt w p b) (hb : Below w.heap.size w w') : AmAt w' p b := by
  obtain ⟨v, h1, h2⟩ := h
  exact ⟨v, h1.kept hb, h2.below hb⟩
theorem searchI_any (v : Value) (L : List Int) (x : Int) (w : World) (h : IntsAt w v L) (hr : risL L) (hl : L.length ≤ 1000000) :
    Calls Try.prog 52 #[v, .int .i64 x] w fun e w' => (∃ n : Int, e = .returned (.tuple #[.int .i64 n, .bool (inL L x)])) ∧ Below w.heap.size w w' := by
  by_cases h0 : L.length = 0
  · obtain ⟨a, c, rfl⟩ := h.form
    have e : inL L x = false := inL_not.2 (by rw [List.eq_nil_of_length_eq_zero h0]; simp)
    rw [h0, e]
    refine (Try.slices_BinarySearch_int_empty a c x w).mono ?_
    rintro e w1 ⟨rfl, rfl⟩
    exact ⟨⟨_, rfl⟩, Below.refl _ _⟩
  · obtain ⟨a, c, rfl, hc, hx⟩ := h
    obtain ⟨g, o, rfl, hg, hcell⟩ := hx (by omega)
    have hs : (L.take L.length).Pairwise (· ≤ ·) := by
      rw [List.take_length]
      exact List.Pairwise.imp (fun h => Int.le_of_lt h) hr
    refine (Try.slices_BinarySearch_int g o L.length c L x w (Nat.le_refl _) (by omega) (fun j hj => ?_) hs).mono ?_
    · rw [hcell j L[j] (List.getElem?_eq_getElem hj), List.getD_eq_getElem?_getD, List.getElem?_eq_getElem hj]
      rfl
    · rintro e w1 ⟨rfl, q, rfl⟩
      rw [List.take_length]
      have e : L.contains x = inL L x := by
        unfold inL
        rw [Bool.eq_iff_iff, List.contains_iff_mem, decide_eq_true_iff]
      rw [e]
      exact ⟨⟨_, rfl⟩, below_drew17 q⟩

end Go.Proofs.Ytjmgokjljmmmgaa
/- Stage 21's program: isFull, isWaiting, holds, waitsFor. -/
namespace Go.Proofs.Ytjmgokjljmmmgaa
open Go.RowKit

abbrev lv7 (tk ta wo un du go : Int) (v : Value) : Value := .agg #[.int .i64 tk, .int .i64 ta, .int .i64 wo, .int .i64 un, .int .i64 du, .int .i64 go, v]
set_option maxHeartbeats 4000000 in
set_option maxRecDepth 100000 in
theorem pFull_any (tk ta wo un du go : Int) (a : Option Addr) (n c : Nat) (w : World) : Calls Try.prog 34 #[lv7 tk ta wo un du go (.slice a n c)] w fun e w' => e = .returned (.bool (decide (go = (n : Int)))) ∧ Below w.heap.size w w' := by
  have HB := Lib.hid ((Below.refl w.heap.size w).alloc (Nat.le_refl _) (.cells #[.int .i64 tk, .int .i64 ta, .int .i64 wo, .int .i64 un, .int .i64 du, .int .i64 go, .slice a n c] 35))
  by_cases e : go = (n : Int)
  · have e1 : (go == (n : Int)) = true := by simpa using e
    rw [decide_eq_true e]
    clear e
    go_enter Try.func34, Try.ntmps34
    go_wp2
    go_ret
    exact ⟨rfl, HB.out⟩
  · have e1 : (go == (n : Int)) = false := beq_noI e
    rw [decide_eq_false e]
    clear e
    go_enter Try.func34, Try.ntmps34
    go_wp2
    go_ret
    exact ⟨rfl, HB.out⟩
set_option maxHeartbeats 4000000 in
set_option maxRecDepth 100000 in
theorem pWaiting_any (tk ta wo un du go : Int) (a : Option Addr) (n c : Nat) (w : World) : Calls Try.prog 37 #[lv7 tk ta wo un du go (.slice a n c)] w fun e w' => e = .returned (.bool (decide (0 ≤ go) && decide (go < (n : Int)))) ∧ Below w.heap.size w w' := by
  have HB := Lib.hid ((Below.refl w.heap.size w).alloc (Nat.le_refl _) (.cells #[.int .i64 tk, .int .i64 ta, .int .i64 wo, .int .i64 un, .int .i64 du, .int .i64 go, .slice a n c] 35))
  by_cases e : 0 ≤ go
  · rw [decide_eq_true e, Bool.true_and]
    by_cases e2 : go < (n : Int)
    · rw [decide_eq_true e2]
      go_enter Try.func37, Try.ntmps37
      go_wp2
      go_ret
      exact ⟨rfl, HB.out⟩
    · rw [decide_eq_false e2]
      go_enter Try.func37, Try.ntmps37
      go_wp2
      go_ret
      exact ⟨rfl, HB.out⟩
  · rw [decide_eq_false e, Bool.false_and]
    go_enter Try.func37, Try.ntmps37
    go_wp2
    go_ret
    exact ⟨rfl, HB.out⟩
set_option maxHeartbeats 4000000 in
set_option maxRecDepth 100000 in
theorem pHolds_any (tk ta wo un du : Int) (j : Nat) (a : Option Addr) (c : Nat) (l : List Int) (id : Int) (w : World) (hi : IntsAt w (.slice a l.length c) l) (hr : risL l) (hj : j ≤ l.length) (hl : l.length ≤ 1000) :
    Calls Try.prog 38 #[lv7 tk ta wo un du (j : Int) (.slice a l.length c), .int .i64 id] w fun e w' => e = .returned (.bool (inL (l.take j) id)) ∧ Below w.heap.size w w' := by
  have hb := (Below.refl w.heap.size w).alloc (Nat.le_refl _) (.cells #[.int .i64 tk, .int .i64 ta, .int .i64 wo, .int .i64 un, .int .i64 du, .int .i64 (j : Int), .slice a l.length c] 35)
  have HB := Lib.hid hb
  obtain ⟨a', c', ec, hcap, _⟩ := IntsAt.rows hi
  cases ec
  have HH := Lib.hid (searchI_any (.slice a j c) (l.take j) id (w.alloc (.cells #[.int .i64 tk, .int .i64 ta, .int .i64 wo, .int .i64 un, .int .i64 du, .int .i64 (j : Int), .slice a l.length c] 35)) ((RowsAt.ints (RowsAt.front (IntsAt.rows hi) j hj)).below hb) (hr.sublist (List.take_sublist ..)) (by rw [List.length_take]; omega))
  obtain ⟨r, hrr⟩ : ∃ r, inL (l.take j) id = r := ⟨_, rfl⟩
  rw [hrr] at HH ⊢
  have j0 : (0 : Int) ≤ (j : Int) := by omega
  have j1 : j ≤ c := by omega
  have j2 : (j : Int) ≤ 1000 := by omega
  generalize l.length = n at *
  clear hb hrr hi hj hl hcap hr
  go_enter Try.func38, Try.ntmps38
  go_wp2_with (go_at_call 52; (with_reducible refine HH.out.mono ?_); rintro e w1 ⟨⟨q, rfl⟩, b1⟩; have HB1 := Lib.hid (HB.out.trans (b1.mono HB.out.size)); clear b1)
  go_ret
  exact ⟨rfl, HB1.out⟩
set_option maxHeartbeats 4000000 in
set_option maxRecDepth 100000 in
theorem pWaitsFor_any (tk ta wo un du go : Int) (a : Option Addr) (c : Nat) (l : List Int) (id : Int) (w : World) (hi : IntsAt w (.slice a l.length c) l) (hl : l.length ≤ 1000) :
    Calls Try.prog 39 #[lv7 tk ta wo un du go (.slice a l.length c), .int .i64 id] w fun e w' => e = .returned (.bool (decide (0 ≤ go ∧ l[go.toNat]? = some id))) ∧ Below w.heap.size w w' := by
  have hb := (Below.refl w.heap.size w).alloc (Nat.le_refl _) (.cells #[.int .i64 tk, .int .i64 ta, .int .i64 wo, .int .i64 un, .int .i64 du, .int .i64 go, .slice a l.length c] 35)
  have HB := Lib.hid hb
  have hX := Blk.new w [.int .i64 tk, .int .i64 ta, .int .i64 wo, .int .i64 un, .int .i64 du, .int .i64 go, .slice a l.length c] 35
  have HX := Lib.hid hX
  have HW := Lib.hid (pWaiting_any tk ta wo un du go a l.length c (w.alloc (.cells #[.int .i64 tk, .int .i64 ta, .int .i64 wo, .int .i64 un, .int .i64 du, .int .i64 go, .slice a l.length c] 35)))
  have HI := Lib.hid (hi.below hb)
  by_cases h : 0 ≤ go ∧ go < (l.length : Int)
  · rw [decide_eq_true h.1, decide_eq_true h.2] at HW
    obtain ⟨j, rfl⟩ : ∃ j : Nat, go = (j : Int) := ⟨go.toNat, by omega⟩
    have hjl : j < l.length := by omega
    rw [Int.toNat_natCast, List.getElem?_eq_getElem hjl]
    obtain ⟨g2, o2, c2, e2, _, _, m0⟩ := HI.out.spot j hjl
    cases e2
    obtain ⟨y, hy⟩ : ∃ y, l[j]'hjl = y := ⟨_, rfl⟩
    rw [hy] at m0 ⊢
    have j0 : (0 : Int) ≤ (j : Int) := by omega
    have j1 : (j : Int) < (l.length : Int) := by omega
    have j2 : (j : Int) ≤ 1000 := by omega
    have M0 := Lib.hid m0
    have hq : decide (0 ≤ (j : Int) ∧ some y = some id) = (y == id) := by
      by_cases e : y = id
      · subst e; simp
      · simp [e]
    rw [hq]
    clear hb hX hi h hy m0 hq hl HI hjl
    generalize l.length = n at *
    go_enter Try.func39, Try.ntmps39
    go_wp2_with (go_at_call 37; (with_reducible refine HW.out.mono ?_); rintro e w2 ⟨rfl, b1⟩; have HB1 := Lib.hid (HB.out.trans (b1.mono HB.out.size)); have q0 := (b1.cell (World.block_lt_of_cell? _ _ M0.out)).trans M0.out; have q5 := (HX.out.kept b1).cell 5 rfl; have q6 := (HX.out.kept b1).cell 6 rfl; clear b1)
    go_ret
    exact ⟨rfl, HB1.out⟩
  · have hw : (decide (0 ≤ go) && decide (go < (l.length : Int))) = false := by
      rw [Bool.eq_false_iff]
      intro h2
      rw [Bool.and_eq_true, decide_eq_true_eq, decide_eq_true_eq] at h2
      exact h h2
    rw [hw] at HW
    have hr : decide (0 ≤ go ∧ l[go.toNat]? = some id) = false := decide_eq_false fun h2 => by
      have := (List.getElem?_eq_some_iff.1 h2.2).1
      exact h ⟨h2.1, by omega⟩
    rw [hr]
    clear hb hX hi h hw hr hl HI
    generalize l.length = n at *
    go_enter Try.func39, Try.ntmps39
    go_wp2_with (go_at_call 37; (with_reducible refine HW.out.mono ?_); rintro e w2 ⟨rfl, b1⟩; have HB1 := Lib.hid (HB.out.trans (b1.mono HB.out.size)); clear b1)
    go_ret
    exact ⟨rfl, HB1.out⟩
end Go.Proofs.Ytjmgokjljmmmgaa
