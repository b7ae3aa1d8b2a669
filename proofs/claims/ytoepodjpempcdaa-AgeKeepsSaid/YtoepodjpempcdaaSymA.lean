/- slices.SortStableFunc at structs: what exchanges. Written by wip/tools/gen_stab.py. -/
import Derived.Test.YtoepodjpempcdaaStabMath
import Derived.Test.YtoepodjpempcdaaOff
import Derived.Test.YtoepodjpempcdaaRegion
import Derived.Shelf.SlSortCmp.KitK
import Derived.Deep.LoopGhost
namespace Go.Proofs.Ytoepodjpempcdaa
open Go.RowKit Go.Shelf Go.Lib Go.Sort

/-- the sorted struct's type and its slices', as the walk shall see them: nothing but that one holds the other, in K cells -/
structure TyK (P : Program) (T S : TypeId) (K : Nat) : Prop where
  a : ∀ w, (isAgg T).run P w = .ok true w
  z : ∀ w, (Go.sizeOf T).run P w = .ok K w
  u : P.underlying S = some (.slice T)
theorem load_T {T T' : TypeId} (h : T = T') (x : Operand) : Op.load T x = Op.load T' x := by rw [h]
theorem store_T {T T' : TypeId} (h : T = T') (x y : Operand) : Op.store T x y = Op.store T' x y := by rw [h]
theorem index_T {T T' : TypeId} (h : T = T') (x y : Operand) : Op.indexAddr T x y = Op.indexAddr T' x y := by rw [h]
/-- W is w0 but for the row at blk, which holds dk -/
structure SWB {α : Type} [Inhabited α] (enc : α → List Value) (k : Nat) (w0 : World) (blk off : Nat) (dk : Array α) (W : World) : Prop where
  holds : HoldsK enc k W blk off dk
  os : W.os = w0.os
  tape : W.tape = w0.tape
  output : W.output = w0.output
  size : w0.heap.size ≤ W.heap.size
  other : ∀ b, b < w0.heap.size → b ≠ blk → W.heap[b]? = w0.heap[b]?
section
variable {α : Type} [Inhabited α] {enc : α → List Value} {k : Nat} {w0 W W' : World} {blk off : Nat} {dk dk' d0 : Array α}
theorem SWB.start (h : HoldsK enc k w0 blk off dk) : SWB enc k w0 blk off dk w0 := ⟨h, rfl, rfl, rfl, Nat.le_refl _, fun _ _ _ => rfl⟩
theorem SWB.below (h : SWB enc k w0 blk off dk W) (R : RowK enc k w0 blk off d0) (hb : Below W.heap.size W W') : SWB enc k w0 blk off dk W' := by
  have hlt : blk < W.heap.size := Nat.lt_of_lt_of_le R.hblk h.size
  refine ⟨fun j hj => ?_, hb.os.trans h.os, hb.tape.trans h.tape, hb.output.trans h.output, Nat.le_trans h.size hb.size, fun b h1 h2 => (hb.block b (Nat.lt_of_lt_of_le h1 h.size)).trans (h.other b h1 h2)⟩
  have := h.holds j hj
  exact ⟨by rw [← this.1]; exact hb.cell hlt, by rw [← this.2]; exact hb.frozen hlt⟩
theorem SWB.at (h : SWB enc k w0 blk off dk W) (R : RowK enc k w0 blk off d0) (n : In W) : SWB enc k w0 blk off dk n.w := h.below R n.h
theorem SWB.drew (h : SWB enc k w0 blk off dk W) : SWB enc k w0 blk off dk W.drew := ⟨h.holds, h.os, h.tape, h.output, h.size, h.other⟩
theorem SWB.load (h : SWB enc k w0 blk off dk W) (R : RowK enc k w0 blk off d0) (P : Program) (i : Nat) (hi : i < dk.size) : Sem.run P (loadCellsFrom ⟨blk, off + i * k, none⟩ 0 k #[]) W = .ok (enc dk[i]!).toArray W :=
  run_loadCellsFrom_list P _ _ _ k (R.hk _) (HoldsK.cells h.holds R.hk hi)
theorem SWB.row (h : SWB enc k w0 blk off dk W) (R : RowK enc k w0 blk off d0) : RowK enc k W blk off dk := ⟨R.hk, R.h1, h.holds, Nat.lt_of_lt_of_le R.hblk h.size⟩
theorem SWB.ld1 (h : SWB enc k w0 blk off dk W) (R : RowK enc k w0 blk off d0) (_hs : dk.size = d0.size) (P : Program) (i : Nat) (hi : i < dk.size) :
    Sem.run P (loadCellsFrom ⟨blk, off + i * k, none⟩ 0 k #[]) W.drew = .ok (enc dk[i]!).toArray W.drew := h.drew.load R P i hi
theorem SWB.st1 (h : SWB enc k w0 blk off dk W) (R : RowK enc k w0 blk off d0) (_hs : dk.size = d0.size) (P : Program) (i : Nat) (hi : i < dk.size) (y : α) :
    Sem.run P (storeCells ⟨blk, off + i * k, none⟩ (enc y) 0) W.drew = .ok () (W.drew.setCells blk (off + i * k) (enc y)) := (SWK.start h.holds).st1 (h.row R) rfl P i hi y
theorem SWB.st2 (h : SWB enc k w0 blk off dk W) (R : RowK enc k w0 blk off d0) (_hs : dk.size = d0.size) (P : Program) (i j : Nat) (hi : i < dk.size) (hj : j < dk.size) (y x : α) :
    Sem.run P (storeCells ⟨blk, off + j * k, none⟩ (enc x) 0) (W.drew.setCells blk (off + i * k) (enc y)) = .ok () ((W.drew.setCells blk (off + i * k) (enc y)).setCells blk (off + j * k) (enc x)) := (SWK.start h.holds).st2 (h.row R) rfl P i j hi hj y x
theorem SWB.ofK (h : SWB enc k w0 blk off dk W) (R : RowK enc k w0 blk off d0) (hs : dk'.size = dk.size) (S : SWK enc k W blk off dk' W') : SWB enc k w0 blk off dk' W' := by
  have R' := h.row R
  have hH := S.holds R'.hblk h.holds hs
  have hle := S.le
  obtain ⟨n, os, rfl⟩ := S
  refine ⟨hH, h.os, h.tape, h.output, Nat.le_trans h.size hle, fun b h1 h2 => ?_⟩
  rw [← h.other b h1 h2]
  unfold sortWorldK
  rw [Sort.heap_grow_old _ _ (by simp [Sort.putRowK, Sort.putRow, Sort.mapBlock, Sort.ahead]; exact Nat.lt_of_lt_of_le h1 h.size)]
  have h3 : blk ≠ b := fun e => h2 e.symm
  simp [Sort.putRowK, Sort.putRow, Sort.mapBlock, Sort.ahead, Array.getElem?_modify, h3]
theorem SWB.swapped (h : SWB enc k w0 blk off dk W) (R : RowK enc k w0 blk off d0) (i j : Nat) (hi : i < dk.size) (hj : j < dk.size) :
    SWB enc k w0 blk off (swp dk i j) ((W.drew.setCells blk (off + i * k) (enc dk[j]!)).setCells blk (off + j * k) (enc dk[i]!)) :=
  h.ofK R (size_swp _ _ _) ((SWK.start h.holds).swapped (h.row R) i j hi hj)
end
/-- what a function value that compares says, and leaves: bound arguments ahead, captured ones behind -/
def CmpF {α : Type} [Inhabited α] (P : Program) (g : Nat) (fi ca : Array Value) (enc : α → List Value) (k : Nat) (cf : α → α → Int) (blk off size : Nat) (w0 : World) : Prop :=
  ∀ (dk : Array α) (W : World), SWB enc k w0 blk off dk W → dk.size = size → ∀ x y : α, Calls P g (fi ++ (#[.agg (enc x).toArray, .agg (enc y).toArray] ++ ca)) W fun e w' => e = .returned (.int .i64 (cf x y)) ∧ Below W.heap.size W w'

set_option maxHeartbeats 4000000 in
set_option maxRecDepth 1000000 in
theorem sSwapRange_any {α : Type} [Inhabited α] (T S : TypeId) (hT : 23 = T) (hS : 28 = S) (K : Nat) (ty : TyK Try.prog T S K) (enc : α → List Value) (f : Value) (blk off cap a b n : Nat) (d0 d : Array α) (w0 w : World) (A U M V Z : List α)
    (R : RowK enc K w0 blk off d0) (hs : d0.size = d.size) (W : SWB enc K w0 blk off d w) (hd : d.toList = A ++ (U ++ (M ++ (V ++ Z)))) (ha : a = A.length) (hu : U.length = n) (hv : V.length = n) (hb : b = a + n + M.length) (hsz : d.size < 4611686018427387904) :
    Calls Try.prog 47 #[.slice (some ⟨blk, off, none⟩) d.size cap, .int .i64 a, .int .i64 b, .int .i64 n, f] w fun e w' => e = .returned (.tuple #[]) ∧ ∃ d', d'.toList = A ++ (V ++ (M ++ (U ++ Z))) ∧ SWB enc K w0 blk off d' w' := by
  obtain ⟨tA, tZ, tS⟩ := ty
  have tU := run_underlying tS
  have mixed : Try.prog.follows .mixedOrders = true := by kernel_rfl
  have HL : Aside (d.toList = rangeS A U M V Z 0) := by rw [rangeS_zero]; exact hd
  have hsz2 : b + n ≤ d.size := by rw [size_split hd]; simp; omega
  have hab : a + n ≤ b := by omega
  have HA : Aside (a = A.length ∧ b = a + n + M.length ∧ U.length = n ∧ V.length = n) := ⟨ha, hb, hu, hv⟩
  have S0 : Aside (SWB enc K w0 blk off d w) := W
  clear W hd ha hu hv hb
  go_enter Try.func47, Try.ntmps47
  simp only [load_T hT, store_T hT, index_T hS]
  clear hT hS
  go_wp2
  go_loopg [10] n (fun kx s10 wr => ∃ (i : Nat) (dk : Array α), s10 = .int .i64 i ∧ i ≤ n ∧ n - i ≤ kx ∧ dk.size = d.size ∧ Aside (SWB enc K w0 blk off dk wr) ∧ Aside (dk.toList = rangeS A U M V Z i))
  case atStart => exact ⟨0, d, rfl, by omega, by omega, rfl, S0, HL⟩
  case round =>
    clear S0 HL
    obtain ⟨i, dk, rfl, hi, hkx, hds, S1, HL⟩ := hrel
    by_cases hlt : (i : Int) < (n : Int)
    · go_wp2_with fail
      have ea3 : ((a : Int) + (i : Int)).toNat = a + i := by omega
      have pa3 : (0 : Int) ≤ (a : Int) + (i : Int) := by omega
      have ba3 : (a : Int) + (i : Int) < (d.size : Int) := by omega
      have ra3 : IntKind.i64.wrap ((a : Int) + (i : Int)) = (a : Int) + (i : Int) := by rw [IntKind.wrap_i64]; omega
      have ec3 : ((b : Int) + (i : Int)).toNat = b + i := by omega
      have pc3 : (0 : Int) ≤ (b : Int) + (i : Int) := by omega
      have bc3 : (b : Int) + (i : Int) < (d.size : Int) := by omega
      have rc3 : IntKind.i64.wrap ((b : Int) + (i : Int)) = (b : Int) + (i : Int) := by rw [IntKind.wrap_i64]; omega
      have S2 : Aside (SWB enc K w0 blk off (swp dk (a + i) (b + i)) ((wr.drew.setCells blk (off + (a + i) * K) (enc dk[b + i]!)).setCells blk (off + (b + i) * K) (enc dk[a + i]!))) := S1.out.swapped R (a + i) (b + i) (by omega) (by omega)
      have l3a := S1.out.ld1 R (by omega) Try.prog (a + i) (by omega)
      have l3b := S1.out.ld1 R (by omega) Try.prog (b + i) (by omega)
      have s3a := S1.out.st1 R (by omega) Try.prog (a + i) (by omega) dk[b + i]!
      have s3b := S1.out.st2 R (by omega) Try.prog (a + i) (b + i) (by omega) (by omega) dk[b + i]! dk[a + i]!
      have n3a : (enc dk[a + i]!).length = K := R.hk _
      have n3b : (enc dk[b + i]!).length = K := R.hk _
      generalize enc dk[a + i]! = cI3 at S2 l3a s3b n3a
      generalize enc dk[b + i]! = cJ3 at S2 l3b s3a s3b n3b
      clear S1
      go_wp2_with fail
      go_big_region_o
      clear l3a l3b s3a s3b
      generalize (wr.drew.setCells blk (off + (a + i) * K) cJ3).setCells blk (off + (b + i) * K) cI3 = w2 at S2 ⊢
      go_wp2
      go_roundg (n - (i + 1))
      case measure => omega
      case rel => exact ⟨i + 1, swp dk (a + i) (b + i), by go_num, by omega, Nat.le_refl _, by rw [size_swp]; exact hds, S2, rangeS_step HA.out.1 HA.out.2.1 HA.out.2.2.1 HA.out.2.2.2 (by omega) HL.out⟩
    · go_wp2
      go_end0
      have : i = n := by omega
      subst this
      exact ⟨rfl, dk, by rw [HL.out, rangeS_all _ _ _ _ _ HA.out.2.2.1 HA.out.2.2.2], S1.out⟩
end Go.Proofs.Ytoepodjpempcdaa
