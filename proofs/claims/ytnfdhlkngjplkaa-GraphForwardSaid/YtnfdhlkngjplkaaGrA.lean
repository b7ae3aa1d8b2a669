/- Stage 16's program: a graph in memory; has. -/
import Derived.Test.YtnfdhlkngjplkaaGrMath
import Derived.Test.YtnfdhlkngjplkaaMapI
import Derived.Test.YtnfdhlkngjplkaaOff
import Derived.Test.YtnfdhlkngjplkaaGraphRefA
namespace Go.Proofs.Ytnfdhlkngjplkaa
open Go.RowKit

abbrev grv (a : Option Addr) (n c hb ab : Nat) : Value := .agg #[.slice a n c, .map (some hb), .map (some ab)]
abbrev grc (a : Option Addr) (n c hb ab : Nat) : List Value := [.slice a n c, .map (some hb), .map (some ab)]
/-- what is awaited, as a map -/
def gA (nodes : List Int) (A : Int → Nat) (n : Int) : Option Int := if n ∈ nodes then some (A n : Int) else none
theorem gA_some {nodes : List Int} {A : Int → Nat} {n : Int} : (gA nodes A n).isSome = inL nodes n := by
  unfold gA
  by_cases h : n ∈ nodes
  · rw [if_pos h, inL_iff.2 h]; rfl
  · rw [if_neg h, inL_not.2 h]; rfl
theorem gA_getD {nodes : List Int} {A : Int → Nat} {n : Int} (h : n ∈ nodes) : (gA nodes A n).getD 0 = (A n : Int) := by
  unfold gA
  rw [if_pos h]; rfl
theorem gA_upd {nodes : List Int} {A A' : Int → Nat} {h : Int} {k : Nat} (hn : h ∈ nodes) (hA : ∀ n, A' n = if n = h then k else A n) : updG (gA nodes A) h (some (k : Int)) = gA nodes A' := by
  funext n
  unfold updG gA
  rw [hA]
  by_cases e : n = h
  · rw [if_pos e, if_pos (e ▸ hn), if_pos e]
  · rw [if_neg e, if_neg e]
/-- nodes, and to which nodes arrows lead from each: all of R -/
structure GrAt (R : Nat → Prop) (w : World) (vn : Value) (hb hm : Nat) (gh : Int → Option Hd) (nodes : List Int) (H : Int → List Int) : Prop where
  row : IntsAt w vn nodes
  map : MapH w hb hm gh
  rows : ∀ n, I64 n → IntsAt w (hat gh n) (H n)
  rn : 0 < nodes.length → ∀ g, vn.ownBlock = some g → R g
  rh : R hb
  rr : ∀ n, I64 n → 0 < (H n).length → ∀ g, (hat gh n).ownBlock = some g → R g
section
variable {R : Nat → Prop} {w w' : World} {vn : Value} {hb hm : Nat} {gh : Int → Option Hd} {nodes : List Int} {H : Int → List Int}
theorem GrAt.out (h : GrAt R w vn hb hm gh nodes H) (hz : w.heap.size ≤ w'.heap.size) (he : ∀ k, R k → w'.heap[k]? = w.heap[k]?) : GrAt R w' vn hb hm gh nodes H :=
  ⟨(RowsAt.same h.row.rows hz fun h0 g hg => he g (h.rn h0 g hg)).ints, h.map.same (he hb h.rh), fun n hn => (RowsAt.same (h.rows n hn).rows hz fun h0 g hg => he g (h.rr n hn h0 g hg)).ints, h.rn, h.rh, h.rr⟩
theorem GrAt.kept (h : GrAt R w vn hb hm gh nodes H) (hw : Below w.heap.size w w') : GrAt R w' vn hb hm gh nodes H :=
  ⟨h.row.below hw, h.map.kept hw, fun n hn => (h.rows n hn).below hw, h.rn, h.rh, h.rr⟩
theorem GrAt.mono {R' : Nat → Prop} (h : GrAt R w vn hb hm gh nodes H) (hs : ∀ k, R k → R' k) : GrAt R' w vn hb hm gh nodes H :=
  ⟨h.row, h.map, h.rows, fun h0 g hg => hs g (h.rn h0 g hg), hs _ h.rh, fun n hn h0 g hg => hs g (h.rr n hn h0 g hg)⟩
end

set_option maxHeartbeats 1000000 in
theorem gHas_any (a : Option Addr) (k c hb ab m : Nat) (g : Int → Option Int) (n : Int) (w : World) (h : MapI w ab m g) (hn : I64 n) :
    Calls Try.prog 30 #[grv a k c hb ab, .int .i64 n] w fun e w' => e = .returned (.bool (g n).isSome) ∧ Below w.heap.size w w' := by
  have hal := (Below.refl w.heap.size w).alloc (Nat.le_refl _) (.cells #[.slice a k c, .map (some hb), .map (some ab)] 39)
  have hX := Blk.new w [.slice a k c, .map (some hb), .map (some ab)] 39
  have e2 := hX.cell 2 rfl
  have HL := Lib.hid ((h.kept hal).look hn)
  have HB := Lib.hid hal
  generalize (g n).getD 0 = x at *
  generalize (g n).isSome = t at *
  have hl := HL.out
  clear h hX hal
  go_enter Try.func30, Try.ntmps30
  go_wp2
  go_ret
  exact ⟨rfl, HB.out⟩
end Go.Proofs.Ytnfdhlkngjplkaa
