/- Stage 16's program: putIfFree; what eachFree keeps. -/
import Derived.Test.YtnfdhlkngjplkaaGrB
import Derived.Test.YtnfdhlkngjplkaaHpJ
namespace Go.Proofs.Ytnfdhlkngjplkaa
open Go.RowKit

set_option maxHeartbeats 1000000 in
theorem gPif_any {Fh : Nat → Prop} {p : Nat} {S : List Th} (a : Option Addr) (k c hb ab m : Nat) (g : Int → Option Int) (n x : Int) (w : World) (h : MapI w ab m g) (hh : HeapAt Fh w p S) (hS : S.length ≤ 1000) (hn : I64 n) (hx : (g n).getD 0 = x) :
    Calls Try.prog 32 #[grv a k c hb ab, ptr13 p, .int .i64 n] w fun e w' => e = .returned (.tuple #[]) ∧ ∃ Fh', HeapAt Fh' w' p (if x = 0 then putT S (th0 n) else S) ∧ Mv Fh Fh' w w' := by
  have hal := (Below.refl w.heap.size w).alloc (Nat.le_refl _) (.cells #[.slice a k c, .map (some hb), .map (some ab)] 39)
  have hX := Blk.new w [.slice a k c, .map (some hb), .map (some ab)] 39
  have e2 := hX.cell 2 rfl
  have hl := (h.kept hal).look1 hn
  rw [hx] at hl
  have HP := Lib.hid (hPut_any (th0 n) _ (hh.kept hal) hS hn)
  have HH := Lib.hid (hh.kept hal)
  have HB := Lib.hid hal
  clear h hh hX hal hx
  by_cases h0 : x = 0
  · subst h0
    rw [if_pos rfl]
    go_enter Try.func32, Try.ntmps32
    go_wp2_with (go_at_call 37; (with_reducible refine HP.out.mono ?_); rintro e w2 ⟨rfl, F2, h1, h2⟩)
    go_end0
    exact ⟨rfl, _, h1, (Mv.of_below HB.out).trans h2⟩
  · rw [if_neg h0]
    have hx2 := beq_noI h0
    clear h0
    go_enter Try.func32, Try.ntmps32
    go_wp2
    go_end0
    exact ⟨rfl, _, HH.out, Mv.of_below HB.out⟩

/-- whom it is told, and what it has gathered: F -/
structure TellJ (J : List Int → (Nat → Prop) → World → Prop) : Prop where
  lt : ∀ {t F w}, J t F w → ∀ k, F k → k < w.heap.size
  out : ∀ {t F w w'}, J t F w → w.heap.size ≤ w'.heap.size → (∀ k, F k → w'.heap[k]? = w.heap[k]?) → J t F w'
/-- the heap (Fh), the levels (lb), what is awaited (ab), who is told (F), the graph (R): apart from one another -/
structure FrSt (J : List Int → (Nat → Prop) → World → Prop) (X R F Fh : Nat → Prop) (w0 w : World) (p : Nat) (S : List Th) (lb lm : Nat) (gl : Int → Option Int) (ab am : Nat) (ga : Int → Option Int) (told : List Int)
    (gx : Nat) (a : Option Addr) (c hb hm : Nat) (gh : Int → Option Hd) (nodes : List Int) (H : Int → List Int) : Prop where
  hh : HeapAt Fh w p S
  hl : MapI w lb lm gl
  ha : MapI w ab am ga
  hj : J told F w
  hg : GrAt R w (.slice a nodes.length c) hb hm gh nodes H
  bx : Blk w gx (grc a nodes.length c hb ab)
  rg : R gx
  jl : ∀ k, F k → k < w.heap.size
  rl : ∀ k, R k → k < w.heap.size
  d1 : ∀ k, Fh k → ¬ F k
  d2 : ∀ k, Fh k → ¬ R k
  d3 : ¬ Fh lb
  d4 : ¬ Fh ab
  d5 : ∀ k, F k → ¬ R k
  d6 : ¬ F lb
  d7 : ¬ F ab
  d8 : ¬ R lb
  d9 : ¬ R ab
  d10 : lb ≠ ab
  xf : ∀ k, F k → X k
  xh : ∀ k, Fh k → X k
  xl : X lb
  xa : X ab
  xw : ∀ k, w0.heap.size ≤ k → X k
  only : Only X w0 w
section
variable {J : List Int → (Nat → Prop) → World → Prop} {X R F F' Fh Fh' : Nat → Prop} {w0 w w' : World} {p : Nat} {S S' : List Th} {lb lm lm' : Nat} {gl gl' : Int → Option Int} {ab am am' : Nat} {ga ga' : Int → Option Int} {told told' : List Int}
  {gx : Nat} {a : Option Addr} {c hb hm : Nat} {gh : Int → Option Hd} {nodes : List Int} {H : Int → List Int}
theorem FrSt.heap (T : TellJ J) (h : FrSt J X R F Fh w0 w p S lb lm gl ab am ga told gx a c hb hm gh nodes H) (hh : HeapAt Fh' w' p S') (m : Mv Fh Fh' w w') : FrSt J X R F Fh' w0 w' p S' lb lm gl ab am ga told gx a c hb hm gh nodes H :=
  ⟨hh, h.hl.same (m.only.block lb h.hl.lt h.d3), h.ha.same (m.only.block ab h.ha.lt h.d4), T.out h.hj m.only.size fun k hk => m.only.block k (h.jl k hk) fun h1 => h.d1 k h1 hk, h.hg.out m.only.size fun k hk => m.only.block k (h.rl k hk) fun h1 => h.d2 k h1 hk,
    h.bx.same (m.only.block gx h.bx.lt fun h1 => h.d2 gx h1 h.rg), h.rg, fun k hk => Nat.lt_of_lt_of_le (h.jl k hk) m.only.size, fun k hk => Nat.lt_of_lt_of_le (h.rl k hk) m.only.size,
    fun k h1 h2 => m.off (h.jl k h2) (fun h3 => h.d1 k h3 h2) h1, fun k h1 h2 => m.off (h.rl k h2) (fun h3 => h.d2 k h3 h2) h1, m.off h.hl.lt h.d3, m.off h.ha.lt h.d4, h.d5, h.d6, h.d7, h.d8, h.d9, h.d10, h.xf,
    fun k hk => (m.sub k hk).elim (h.xh k) fun h1 => h.xw k (Nat.le_trans h.only.size h1), h.xl, h.xa, h.xw, h.only.trans (m.only.mono h.xh)⟩
theorem FrSt.tell (h : FrSt J X R F Fh w0 w p S lb lm gl ab am ga told gx a c hb hm gh nodes H) (T : TellJ J) (hj : J told' F' w') (m : Mv F F' w w') : FrSt J X R F' Fh w0 w' p S lb lm gl ab am ga told' gx a c hb hm gh nodes H :=
  ⟨h.hh.out m.only.size fun k hk => m.only.block k (h.hh.lt k hk) (h.d1 k hk), h.hl.same (m.only.block lb h.hl.lt h.d6), h.ha.same (m.only.block ab h.ha.lt h.d7), hj, h.hg.out m.only.size fun k hk => m.only.block k (h.rl k hk) fun h1 => h.d5 k h1 hk,
    h.bx.same (m.only.block gx h.bx.lt fun h1 => h.d5 gx h1 h.rg), h.rg, T.lt hj, fun k hk => Nat.lt_of_lt_of_le (h.rl k hk) m.only.size,
    fun k h1 h2 => m.off (h.hh.lt k h1) (h.d1 k h1) h2, h.d2, h.d3, h.d4, fun k h1 h2 => m.off (h.rl k h2) (fun h3 => h.d5 k h3 h2) h1, m.off h.hl.lt h.d6, m.off h.ha.lt h.d7, h.d8, h.d9, h.d10,
    fun k hk => (m.sub k hk).elim (h.xf k) fun h1 => h.xw k (Nat.le_trans h.only.size h1), h.xh, h.xl, h.xa, h.xw, h.only.trans (m.only.mono h.xf)⟩
theorem FrSt.lev (T : TellJ J) (h : FrSt J X R F Fh w0 w p S lb lm gl ab am ga told gx a c hb hm gh nodes H) (hl : MapI w' lb lm' gl') (g : w.grownBy w' (some lb)) : FrSt J X R F Fh w0 w' p S lb lm' gl' ab am ga told gx a c hb hm gh nodes H := by
  have hk : ∀ k, k < w.heap.size → k ≠ lb → w'.heap[k]? = w.heap[k]? := fun k h1 h2 => g.block k h1 fun e => h2 (by injection e)
  exact ⟨h.hh.out g.size fun k h1 => hk k (h.hh.lt k h1) fun e => h.d3 (e ▸ h1), hl, h.ha.same (hk ab h.ha.lt (Ne.symm h.d10)), T.out h.hj g.size fun k h1 => hk k (h.jl k h1) fun e => h.d6 (e ▸ h1), h.hg.out g.size fun k h1 => hk k (h.rl k h1) fun e => h.d8 (e ▸ h1),
    h.bx.same (hk gx h.bx.lt fun e => h.d8 (e ▸ h.rg)), h.rg, fun k h1 => Nat.lt_of_lt_of_le (h.jl k h1) g.size, fun k h1 => Nat.lt_of_lt_of_le (h.rl k h1) g.size, h.d1, h.d2, h.d3, h.d4, h.d5, h.d6, h.d7, h.d8, h.d9, h.d10, h.xf, h.xh, h.xl, h.xa, h.xw,
    h.only.trans (Only.grown g fun k e => by injection e with e; exact e ▸ h.xl)⟩
theorem FrSt.awa (T : TellJ J) (h : FrSt J X R F Fh w0 w p S lb lm gl ab am ga told gx a c hb hm gh nodes H) (ha : MapI w' ab am' ga') (g : w.grownBy w' (some ab)) : FrSt J X R F Fh w0 w' p S lb lm gl ab am' ga' told gx a c hb hm gh nodes H := by
  have hk : ∀ k, k < w.heap.size → k ≠ ab → w'.heap[k]? = w.heap[k]? := fun k h1 h2 => g.block k h1 fun e => h2 (by injection e)
  exact ⟨h.hh.out g.size fun k h1 => hk k (h.hh.lt k h1) fun e => h.d4 (e ▸ h1), h.hl.same (hk lb h.hl.lt h.d10), ha, T.out h.hj g.size fun k h1 => hk k (h.jl k h1) fun e => h.d7 (e ▸ h1), h.hg.out g.size fun k h1 => hk k (h.rl k h1) fun e => h.d9 (e ▸ h1),
    h.bx.same (hk gx h.bx.lt fun e => h.d9 (e ▸ h.rg)), h.rg, fun k h1 => Nat.lt_of_lt_of_le (h.jl k h1) g.size, fun k h1 => Nat.lt_of_lt_of_le (h.rl k h1) g.size, h.d1, h.d2, h.d3, h.d4, h.d5, h.d6, h.d7, h.d8, h.d9, h.d10, h.xf, h.xh, h.xl, h.xa, h.xw,
    h.only.trans (Only.grown g fun k e => by injection e with e; exact e ▸ h.xa)⟩
end
end Go.Proofs.Ytnfdhlkngjplkaa
