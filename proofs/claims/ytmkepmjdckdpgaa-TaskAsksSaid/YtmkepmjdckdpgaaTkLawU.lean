/- Stage 22: the law TaskAsks. -/
import Derived.Test.YtmkepmjdckdpgaaBun13
namespace Go.Proofs.Ytmkepmjdckdpgaa
open Go.RowKit

structure As22 (W : World) (n : Nat) (x1 x2 x3 x4 x5 x6 x7 y1 y2 y3 y4 y5 y6 y7 id prio sk ge fx fy tx ty id' prio' sk' ge' fx' fy' tx' ty' z1 z2 : Int) (ar aq ax ay : Option Addr) (cr cq cx cy : Nat) (lr lq : List Ais) (lx ly : List Int) : Prop where
  r : Blk W n [.int .i64 x1, .int .i64 x2, .int .i64 x3, .int .i64 x4, .int .i64 x5, .int .i64 x6, .int .i64 x7, .slice ar lr.length cr]
  q : Blk W (n + 1) [.int .i64 y1, .int .i64 y2, .int .i64 y3, .int .i64 y4, .int .i64 y5, .int .i64 y6, .int .i64 y7, .slice aq lq.length cq]
  x : Blk W (n + 1 + 1) [.int .i64 id, .int .i64 prio, .int .u64 sk, .int .u64 ge, .int .i64 fx, .int .i64 fy, .int .i64 tx, .int .i64 ty, .slice ax lx.length cx]
  y : Blk W (n + 1 + 1 + 1) [.int .i64 id', .int .i64 prio', .int .u64 sk', .int .u64 ge', .int .i64 fx', .int .i64 fy', .int .i64 tx', .int .i64 ty', .slice ay ly.length cy]
  z : Blk W (n + 1 + 1 + 1 + 1) [.int .u64 z1, .int .u64 z2]
  ir : AisAt W (.slice ar lr.length cr) lr
  iq : AisAt W (.slice aq lq.length cq) lq
  ix : IntsAt W (.slice ax lx.length cx) lx
  iy : IntsAt W (.slice ay ly.length cy) ly
section
variable {x1 x2 x3 x4 x5 x6 x7 y1 y2 y3 y4 y5 y6 y7 id prio sk ge fx fy tx ty id' prio' sk' ge' fx' fy' tx' ty' z1 z2 : Int} {ar aq ax ay : Option Addr} {cr cq cx cy : Nat} {lr lq : List Ais} {lx ly : List Int}
theorem As22.kept {W W' : World} {n : Nat} (h : As22 W n x1 x2 x3 x4 x5 x6 x7 y1 y2 y3 y4 y5 y6 y7 id prio sk ge fx fy tx ty id' prio' sk' ge' fx' fy' tx' ty' z1 z2 ar aq ax ay cr cq cx cy lr lq lx ly) (hb : Below W.heap.size W W') : As22 W' n x1 x2 x3 x4 x5 x6 x7 y1 y2 y3 y4 y5 y6 y7 id prio sk ge fx fy tx ty id' prio' sk' ge' fx' fy' tx' ty' z1 z2 ar aq ax ay cr cq cx cy lr lq lx ly :=
  ⟨h.r.kept hb, h.q.kept hb, h.x.kept hb, h.y.kept hb, h.z.kept hb, RowsAt.kept h.ir hb, RowsAt.kept h.iq hb, h.ix.below hb, h.iy.below hb⟩
set_option maxRecDepth 100000 in
theorem as22 (w : World) (hr : AisAt w (.slice ar lr.length cr) lr) (hq : AisAt w (.slice aq lq.length cq) lq) (hx : IntsAt w (.slice ax lx.length cx) lx) (hy : IntsAt w (.slice ay ly.length cy) ly) :
    As22 (((((w.alloc (.cells #[.int .i64 x1, .int .i64 x2, .int .i64 x3, .int .i64 x4, .int .i64 x5, .int .i64 x6, .int .i64 x7, .slice ar lr.length cr] 30)).alloc (.cells #[.int .i64 y1, .int .i64 y2, .int .i64 y3, .int .i64 y4, .int .i64 y5, .int .i64 y6, .int .i64 y7, .slice aq lq.length cq] 30)).alloc (.cells #[.int .i64 id, .int .i64 prio, .int .u64 sk, .int .u64 ge, .int .i64 fx, .int .i64 fy, .int .i64 tx, .int .i64 ty, .slice ax lx.length cx] 27)).alloc (.cells #[.int .i64 id', .int .i64 prio', .int .u64 sk', .int .u64 ge', .int .i64 fx', .int .i64 fy', .int .i64 tx', .int .i64 ty', .slice ay ly.length cy] 27)).alloc (.cells #[.int .u64 z1, .int .u64 z2] 36)) w.heap.size x1 x2 x3 x4 x5 x6 x7 y1 y2 y3 y4 y5 y6 y7 id prio sk ge fx fy tx ty id' prio' sk' ge' fx' fy' tx' ty' z1 z2 ar aq ax ay cr cq cx cy lr lq lx ly ∧ Below w.heap.size w (((((w.alloc (.cells #[.int .i64 x1, .int .i64 x2, .int .i64 x3, .int .i64 x4, .int .i64 x5, .int .i64 x6, .int .i64 x7, .slice ar lr.length cr] 30)).alloc (.cells #[.int .i64 y1, .int .i64 y2, .int .i64 y3, .int .i64 y4, .int .i64 y5, .int .i64 y6, .int .i64 y7, .slice aq lq.length cq] 30)).alloc (.cells #[.int .i64 id, .int .i64 prio, .int .u64 sk, .int .u64 ge, .int .i64 fx, .int .i64 fy, .int .i64 tx, .int .i64 ty, .slice ax lx.length cx] 27)).alloc (.cells #[.int .i64 id', .int .i64 prio', .int .u64 sk', .int .u64 ge', .int .i64 fx', .int .i64 fy', .int .i64 tx', .int .i64 ty', .slice ay ly.length cy] 27)).alloc (.cells #[.int .u64 z1, .int .u64 z2] 36)) := by
  have b1 := (Below.refl w.heap.size w).alloc (Nat.le_refl _) (.cells #[.int .i64 x1, .int .i64 x2, .int .i64 x3, .int .i64 x4, .int .i64 x5, .int .i64 x6, .int .i64 x7, .slice ar lr.length cr] 30)
  have f1 := Blk.new w [.int .i64 x1, .int .i64 x2, .int .i64 x3, .int .i64 x4, .int .i64 x5, .int .i64 x6, .int .i64 x7, .slice ar lr.length cr] 30
  have s1 : (w.alloc (.cells #[.int .i64 x1, .int .i64 x2, .int .i64 x3, .int .i64 x4, .int .i64 x5, .int .i64 x6, .int .i64 x7, .slice ar lr.length cr] 30)).heap.size = w.heap.size + 1 := by simp
  have h1 := hr.kept b1
  have h2 := hq.kept b1
  have h3 := hx.below b1
  have h4 := hy.below b1
  clear hr hq hx hy
  generalize w.alloc (.cells #[.int .i64 x1, .int .i64 x2, .int .i64 x3, .int .i64 x4, .int .i64 x5, .int .i64 x6, .int .i64 x7, .slice ar lr.length cr] 30) = W1 at *
  generalize w.heap.size = n at *
  have b2 := (Below.refl W1.heap.size W1).alloc (Nat.le_refl _) (.cells #[.int .i64 y1, .int .i64 y2, .int .i64 y3, .int .i64 y4, .int .i64 y5, .int .i64 y6, .int .i64 y7, .slice aq lq.length cq] 30)
  have f2 := Blk.new W1 [.int .i64 y1, .int .i64 y2, .int .i64 y3, .int .i64 y4, .int .i64 y5, .int .i64 y6, .int .i64 y7, .slice aq lq.length cq] 30
  have s2 : (W1.alloc (.cells #[.int .i64 y1, .int .i64 y2, .int .i64 y3, .int .i64 y4, .int .i64 y5, .int .i64 y6, .int .i64 y7, .slice aq lq.length cq] 30)).heap.size = n + 1 + 1 := by simp [s1]
  rw [s1] at f2
  generalize W1.alloc (.cells #[.int .i64 y1, .int .i64 y2, .int .i64 y3, .int .i64 y4, .int .i64 y5, .int .i64 y6, .int .i64 y7, .slice aq lq.length cq] 30) = W2 at *
  have b3 := (Below.refl W2.heap.size W2).alloc (Nat.le_refl _) (.cells #[.int .i64 id, .int .i64 prio, .int .u64 sk, .int .u64 ge, .int .i64 fx, .int .i64 fy, .int .i64 tx, .int .i64 ty, .slice ax lx.length cx] 27)
  have f3 := Blk.new W2 [.int .i64 id, .int .i64 prio, .int .u64 sk, .int .u64 ge, .int .i64 fx, .int .i64 fy, .int .i64 tx, .int .i64 ty, .slice ax lx.length cx] 27
  have s3 : (W2.alloc (.cells #[.int .i64 id, .int .i64 prio, .int .u64 sk, .int .u64 ge, .int .i64 fx, .int .i64 fy, .int .i64 tx, .int .i64 ty, .slice ax lx.length cx] 27)).heap.size = n + 1 + 1 + 1 := by simp [s2]
  rw [s2] at f3
  generalize W2.alloc (.cells #[.int .i64 id, .int .i64 prio, .int .u64 sk, .int .u64 ge, .int .i64 fx, .int .i64 fy, .int .i64 tx, .int .i64 ty, .slice ax lx.length cx] 27) = W3 at *
  have b4 := (Below.refl W3.heap.size W3).alloc (Nat.le_refl _) (.cells #[.int .i64 id', .int .i64 prio', .int .u64 sk', .int .u64 ge', .int .i64 fx', .int .i64 fy', .int .i64 tx', .int .i64 ty', .slice ay ly.length cy] 27)
  have f4 := Blk.new W3 [.int .i64 id', .int .i64 prio', .int .u64 sk', .int .u64 ge', .int .i64 fx', .int .i64 fy', .int .i64 tx', .int .i64 ty', .slice ay ly.length cy] 27
  have s4 : (W3.alloc (.cells #[.int .i64 id', .int .i64 prio', .int .u64 sk', .int .u64 ge', .int .i64 fx', .int .i64 fy', .int .i64 tx', .int .i64 ty', .slice ay ly.length cy] 27)).heap.size = n + 1 + 1 + 1 + 1 := by simp [s3]
  rw [s3] at f4
  generalize W3.alloc (.cells #[.int .i64 id', .int .i64 prio', .int .u64 sk', .int .u64 ge', .int .i64 fx', .int .i64 fy', .int .i64 tx', .int .i64 ty', .slice ay ly.length cy] 27) = W4 at *
  have b5 := (Below.refl W4.heap.size W4).alloc (Nat.le_refl _) (.cells #[.int .u64 z1, .int .u64 z2] 36)
  have f5 := Blk.new W4 [.int .u64 z1, .int .u64 z2] 36
  have s5 : (W4.alloc (.cells #[.int .u64 z1, .int .u64 z2] 36)).heap.size = n + 1 + 1 + 1 + 1 + 1 := by simp [s4]
  rw [s4] at f5
  have c4 := b4.trans (b5.mono b4.size)
  have c3 := b3.trans (c4.mono b3.size)
  have c2 := b2.trans (c3.mono b2.size)
  have hs : n ≤ W1.heap.size := by omega
  exact ⟨⟨f1.kept c2, f2.kept c3, f3.kept c4, f4.kept b5, f5, RowsAt.kept h1 c2, RowsAt.kept h2 c2, h3.below c2, h4.below c2⟩, b1.trans (c2.mono hs)⟩
end

theorem wantL_len (r : Ru) (x : Sp) : (wantL r x).length ≤ r.ais.length := crs7_len _ _
/-- a list that a call hands back, beside what holds -/
def lkILF (F : World → Prop) (L : List Int) (n : Nat) : Lk := ⟨Option Addr × Nat, ⟨(none, 0)⟩, fun x => .slice x.1 n x.2, fun x w => F w ∧ IntsAt w (.slice x.1 n x.2) L⟩
theorem lkILF_at {P : Program} {o : Oper} {a : Act} {W : World} {F G : World → Prop} {L : List Int} {n : Nat} {f : FuncId} {args : Array Value} (hF : KeptC F) (hG : ∀ k : In W, G k.w → F k.w) (hn : n = L.length) (he : ∀ k : In W, (execOp a.eval o).run P k.w = .ok (.enter f args) k.w)
    (hc : ∀ k : In W, Calls P f args k.w fun e w' => ∃ v, e = .returned v ∧ IntsAt w' v L ∧ Below k.w.heap.size k.w w') : (lkILF F L n).at P o a W G :=
  ⟨fun _ _ _ h hb => ⟨hF _ _ h.1 hb, IntsAt.below h.2 hb⟩, fun k hg => by
    subst hn
    rw [he k]
    refine ⟨rfl, (hc k).mono ?_⟩
    rintro e w' ⟨v, rfl, h1, h2⟩
    obtain ⟨b, c, rfl⟩ := h1.form
    exact ⟨(b, c), rfl, ⟨hF _ _ (hG k hg) h2, h1⟩, h2.mono k.h.size⟩⟩
theorem chainOf_three {md : Region.Mode} {ops : Array Oper} {i j k : Nat} (h1 : beforeB md ops ops.size i j = true) (h2 : beforeB md ops ops.size i k = true) (h3 : beforeB md ops ops.size j k = true) : chainOf md ops [i, j, k] = true := by
  simp [chainOf, h1, h2, h3]

set_option maxHeartbeats 16000000 in
set_option maxRecDepth 100000 in
theorem taskAsks_any (r q : Ru) (x y : Sp) (s g z1 z2 : Nat) (w : World) (hr : AisAt w r.v r.ais) (hq : AisAt w q.v q.ais) (hx : IntsAt w x.v x.aft) (hy : IntsAt w y.v y.aft)
    (hs : x.sk = (s : Int)) (hg : x.ge = (g : Int)) (hs2 : s < 2 ^ 64) (hg2 : g < 2 ^ 64) (hz1 : z1 < 2 ^ 64) (hz2 : z2 < 2 ^ 64) :
    Calls Try.prog 4 #[ruv r, ruv q, spv x, spv y, .agg #[.int .u64 (z1 : Int), .int .u64 (z2 : Int)]] w fun e w' => e = .returned (.bool true) ∧ Below w.heap.size w w' := by
  have HAL := Lib.hid fun w => tAlive_any w
  have G1 := fun w h h2 => tClone_any x w h h2
  have G2 := fun w h h2 => tWant_any r x w h h2
  have G3 := fun w h h2 => refWant22_any r x w h h2
  have G4 := Lib.hid fun w => tFits_any x s g z1 z2 w hs hg hs2 hg2 hz1 hz2
  have G5 := Lib.hid fun w => refFits22_any x s g z1 z2 w hs hg hs2 hg2 hz1 hz2
  have G6 := fun w h1 h2 h3 h4 => tSame_any x y w h1 h2 h3 h4
  have G7 := fun w h1 h2 h3 h4 => refSame22_any x y w h1 h2 h3 h4
  have G8 := fun w h1 h2 h3 h4 => tSameR_any r q w h1 h2 h3 h4
  have G9 := fun w h1 h2 h3 h4 => refSameR22_any r q w h1 h2 h3 h4
  have G0 := fun c w h1 h2 h3 h4 => refSame22_any c x w h1 h2 h3 h4
  have hwl := wantL_len r x
  have G10 := fun w va vb h h2 (hl : r.ais.length ≤ 40) => refInts_any va vb (wantL r x) (wantL r x) w h h2 (by omega) (by omega)
  rw [decide_eq_true rfl] at G10
  generalize wantL r x = wl at *
  generalize (hasK z1 s 64 && hasK z2 g 64) = ft at *
  generalize sameS x y = t1 at *
  generalize sameR r q = t2 at *
  obtain ⟨x1, x2, x3, x4, x5, x6, x7, ar, cr, lr⟩ := r
  obtain ⟨y1, y2, y3, y4, y5, y6, y7, aq, cq, lq⟩ := q
  obtain ⟨id, prio, sk, ge, fx, fy, tx, ty, ax, cx, lx⟩ := x
  obtain ⟨id', prio', sk', ge', fx', fy', tx', ty', ay, cy, ly⟩ := y
  dsimp only [Sp.v, spv, Ru.v, ruv] at *
  obtain ⟨Z1, hZ1⟩ : ∃ Z1 : Int, (z1 : Int) = Z1 := ⟨_, rfl⟩
  obtain ⟨Z2, hZ2⟩ : ∃ Z2 : Int, (z2 : Int) = Z2 := ⟨_, rfl⟩
  rw [hZ1, hZ2] at G4 G5 ⊢
  clear hs hg hs2 hg2 hz1 hz2 hZ1 hZ2
  obtain ⟨hA, hB⟩ := as22 (x1 := x1) (x2 := x2) (x3 := x3) (x4 := x4) (x5 := x5) (x6 := x6) (x7 := x7) (y1 := y1) (y2 := y2) (y3 := y3) (y4 := y4) (y5 := y5) (y6 := y6) (y7 := y7) (id := id) (prio := prio) (sk := sk) (ge := ge) (fx := fx) (fy := fy) (tx := tx) (ty := ty) (id' := id') (prio' := prio') (sk' := sk') (ge' := ge') (fx' := fx') (fy' := fy') (tx' := tx') (ty' := ty') (z1 := Z1) (z2 := Z2) w hr hq hx hy
  have HA := Lib.hid hA
  have HB := Lib.hid hB
  clear hA hB hr hq hx hy
  have x8 := HA.out.x.cell 8 rfl
  have y8 := HA.out.y.cell 8 rfl
  have r7 := HA.out.r.cell 7 rfl
  have q7 := HA.out.q.cell 7 rfl
  by_cases h1 : (60 : Int) < (lx.length : Int)
  · go_enter Try.func4, Try.ntmps4
    go_wp2_with (go_at_call 6; (with_reducible refine (HAL.out _).mono ?_); rintro e w1 ⟨rfl, hb⟩; replace HB := Lib.hid (HB.out.trans (hb.mono HB.out.size)); clear hb)
    go_ret
    exact ⟨rfl, HB.out⟩
  by_cases h2 : (60 : Int) < (ly.length : Int)
  · go_enter Try.func4, Try.ntmps4
    go_wp2_with (go_at_call 6; (with_reducible refine (HAL.out _).mono ?_); rintro e w1 ⟨rfl, hb⟩; replace HB := Lib.hid (HB.out.trans (hb.mono HB.out.size)); clear hb)
    go_ret
    exact ⟨rfl, HB.out⟩
  by_cases h3 : (40 : Int) < (lr.length : Int)
  · go_enter Try.func4, Try.ntmps4
    go_wp2_with (go_at_call 6; (with_reducible refine (HAL.out _).mono ?_); rintro e w1 ⟨rfl, hb⟩; replace HB := Lib.hid (HB.out.trans (hb.mono HB.out.size)); clear hb)
    go_ret
    exact ⟨rfl, HB.out⟩
  by_cases h4 : (40 : Int) < (lq.length : Int)
  · go_enter Try.func4, Try.ntmps4
    go_wp2_with (go_at_call 6; (with_reducible refine (HAL.out _).mono ?_); rintro e w1 ⟨rfl, hb⟩; replace HB := Lib.hid (HB.out.trans (hb.mono HB.out.size)); clear hb)
    go_ret
    exact ⟨rfl, HB.out⟩
  have H1 := Lib.hid fun w h => G1 w h (by omega)
  have H2 := Lib.hid fun w h => G2 w h (by omega)
  have H3 := Lib.hid fun w h => G3 w h (by omega)
  have H6 := Lib.hid fun w h1 h2 => G6 w h1 h2 (by omega) (by omega)
  have H7 := Lib.hid fun w h1 h2 => G7 w h1 h2 (by omega) (by omega)
  have H8 := Lib.hid fun w h1 h2 => G8 w h1 h2 (by omega) (by omega)
  have H9 := Lib.hid fun w h1 h2 => G9 w h1 h2 (by omega) (by omega)
  have H0 := Lib.hid fun c w h1 h2 (h3 : c.aft = lx) => G0 c w h1 h2 (by rw [h3]; omega) (by omega)
  have H10 := Lib.hid fun w va vb h h2 => G10 w va vb h h2 (by omega)
  clear G0 G1 G2 G3 G6 G7 G8 G9 G10 hwl
  go_enter Try.func4, Try.ntmps4
  have x0 := HA.out.x.cell 0 rfl
  have x1' := HA.out.x.cell 1 rfl
  have x2' := HA.out.x.cell 2 rfl
  have x3' := HA.out.x.cell 3 rfl
  have x4' := HA.out.x.cell 4 rfl
  have x5' := HA.out.x.cell 5 rfl
  have x6' := HA.out.x.cell 6 rfl
  have x7' := HA.out.x.cell 7 rfl
  go_wp2_with (go_at_call 11; (with_reducible refine (H1.out _ HA.out.ix).mono ?_); rintro e w1 ⟨cc, rfl, hc1, hc2, hc3, hb⟩; replace HB := Lib.hid (HB.out.trans (hb.mono HB.out.size)); replace HA := Lib.hid (HA.out.kept hb); clear hb x0 x1' x2' x3' x4' x5' x6' x7' x8 y8 r7 q7; have HC := Lib.hid (And.intro hc1 (And.intro hc2 hc3)); clear hc1 hc2 hc3; obtain ⟨cid, cprio, csk, cge, cfx, cfy, ctx, cty, ca, cc, cl⟩ := cc; dsimp only [spv, Sp.v] at HC ⊢)
  obtain ⟨hc1, hc2, hc3⟩ := HC.out
  have hc4 := hc3.symm
  clear hc3
  subst hc4
  clear HC
  have hal := (Below.refl w1.heap.size w1).alloc (Nat.le_refl _) (.cells #[.int .i64 cid, .int .i64 cprio, .int .u64 csk, .int .u64 cge, .int .i64 cfx, .int .i64 cfy, .int .i64 ctx, .int .i64 cty, .slice ca lx.length cc] 27)
  have HX := Lib.hid (boxS w1 cid cprio csk cge cfx cfy ctx cty (.slice ca lx.length cc))
  have HCI := Lib.hid (hc1.below hal)
  replace HA := Lib.hid (HA.out.kept hal)
  replace HB := Lib.hid (HB.out.trans (hal.mono HB.out.size))
  have HS := Lib.hid fun w h h2 => H0.out ⟨cid, cprio, csk, cge, cfx, cfy, ctx, cty, ca, cc, lx⟩ w h h2 rfl
  rw [hc2] at HS
  dsimp only at HS
  clear hal hc1 hc2 H0
  generalize w1.alloc (.cells #[.int .i64 cid, .int .i64 cprio, .int .u64 csk, .int .u64 cge, .int .i64 cfx, .int .i64 cfy, .int .i64 ctx, .int .i64 cty, .slice ca lx.length cc] 27) = W0 at *
  generalize w1.heap.size = nb at *
  have hS0 : Below W0.heap.size W0 W0.drew := below_drewN (Below.refl _ W0) 1
  have Kr0 := fun (w' : World) (h : Below W0.heap.size W0 w') => (HA.out.kept h).r.cell 0 rfl
  have Kr1 := fun (w' : World) (h : Below W0.heap.size W0 w') => (HA.out.kept h).r.cell 1 rfl
  have Kr2 := fun (w' : World) (h : Below W0.heap.size W0 w') => (HA.out.kept h).r.cell 2 rfl
  have Kr3 := fun (w' : World) (h : Below W0.heap.size W0 w') => (HA.out.kept h).r.cell 3 rfl
  have Kr4 := fun (w' : World) (h : Below W0.heap.size W0 w') => (HA.out.kept h).r.cell 4 rfl
  have Kr5 := fun (w' : World) (h : Below W0.heap.size W0 w') => (HA.out.kept h).r.cell 5 rfl
  have Kr6 := fun (w' : World) (h : Below W0.heap.size W0 w') => (HA.out.kept h).r.cell 6 rfl
  have Kr7 := fun (w' : World) (h : Below W0.heap.size W0 w') => (HA.out.kept h).r.cell 7 rfl
  have Kq0 := fun (w' : World) (h : Below W0.heap.size W0 w') => (HA.out.kept h).q.cell 0 rfl
  have Kq1 := fun (w' : World) (h : Below W0.heap.size W0 w') => (HA.out.kept h).q.cell 1 rfl
  have Kq2 := fun (w' : World) (h : Below W0.heap.size W0 w') => (HA.out.kept h).q.cell 2 rfl
  have Kq3 := fun (w' : World) (h : Below W0.heap.size W0 w') => (HA.out.kept h).q.cell 3 rfl
  have Kq4 := fun (w' : World) (h : Below W0.heap.size W0 w') => (HA.out.kept h).q.cell 4 rfl
  have Kq5 := fun (w' : World) (h : Below W0.heap.size W0 w') => (HA.out.kept h).q.cell 5 rfl
  have Kq6 := fun (w' : World) (h : Below W0.heap.size W0 w') => (HA.out.kept h).q.cell 6 rfl
  have Kq7 := fun (w' : World) (h : Below W0.heap.size W0 w') => (HA.out.kept h).q.cell 7 rfl
  have Kx0 := fun (w' : World) (h : Below W0.heap.size W0 w') => (HA.out.kept h).x.cell 0 rfl
  have Kx1 := fun (w' : World) (h : Below W0.heap.size W0 w') => (HA.out.kept h).x.cell 1 rfl
  have Kx2 := fun (w' : World) (h : Below W0.heap.size W0 w') => (HA.out.kept h).x.cell 2 rfl
  have Kx3 := fun (w' : World) (h : Below W0.heap.size W0 w') => (HA.out.kept h).x.cell 3 rfl
  have Kx4 := fun (w' : World) (h : Below W0.heap.size W0 w') => (HA.out.kept h).x.cell 4 rfl
  have Kx5 := fun (w' : World) (h : Below W0.heap.size W0 w') => (HA.out.kept h).x.cell 5 rfl
  have Kx6 := fun (w' : World) (h : Below W0.heap.size W0 w') => (HA.out.kept h).x.cell 6 rfl
  have Kx7 := fun (w' : World) (h : Below W0.heap.size W0 w') => (HA.out.kept h).x.cell 7 rfl
  have Kx8 := fun (w' : World) (h : Below W0.heap.size W0 w') => (HA.out.kept h).x.cell 8 rfl
  have Ky0 := fun (w' : World) (h : Below W0.heap.size W0 w') => (HA.out.kept h).y.cell 0 rfl
  have Ky1 := fun (w' : World) (h : Below W0.heap.size W0 w') => (HA.out.kept h).y.cell 1 rfl
  have Ky2 := fun (w' : World) (h : Below W0.heap.size W0 w') => (HA.out.kept h).y.cell 2 rfl
  have Ky3 := fun (w' : World) (h : Below W0.heap.size W0 w') => (HA.out.kept h).y.cell 3 rfl
  have Ky4 := fun (w' : World) (h : Below W0.heap.size W0 w') => (HA.out.kept h).y.cell 4 rfl
  have Ky5 := fun (w' : World) (h : Below W0.heap.size W0 w') => (HA.out.kept h).y.cell 5 rfl
  have Ky6 := fun (w' : World) (h : Below W0.heap.size W0 w') => (HA.out.kept h).y.cell 6 rfl
  have Ky7 := fun (w' : World) (h : Below W0.heap.size W0 w') => (HA.out.kept h).y.cell 7 rfl
  have Ky8 := fun (w' : World) (h : Below W0.heap.size W0 w') => (HA.out.kept h).y.cell 8 rfl
  have Kz0 := fun (w' : World) (h : Below W0.heap.size W0 w') => (HA.out.kept h).z.cell 0 rfl
  have Kz1 := fun (w' : World) (h : Below W0.heap.size W0 w') => (HA.out.kept h).z.cell 1 rfl
  have Kc0 := fun (w' : World) (h : Below W0.heap.size W0 w') => (HX.out.kept h).cell 0 rfl
  have Kc1 := fun (w' : World) (h : Below W0.heap.size W0 w') => (HX.out.kept h).cell 1 rfl
  have Kc2 := fun (w' : World) (h : Below W0.heap.size W0 w') => (HX.out.kept h).cell 2 rfl
  have Kc3 := fun (w' : World) (h : Below W0.heap.size W0 w') => (HX.out.kept h).cell 3 rfl
  have Kc4 := fun (w' : World) (h : Below W0.heap.size W0 w') => (HX.out.kept h).cell 4 rfl
  have Kc5 := fun (w' : World) (h : Below W0.heap.size W0 w') => (HX.out.kept h).cell 5 rfl
  have Kc6 := fun (w' : World) (h : Below W0.heap.size W0 w') => (HX.out.kept h).cell 6 rfl
  have Kc7 := fun (w' : World) (h : Below W0.heap.size W0 w') => (HX.out.kept h).cell 7 rfl
  have Kc8 := fun (w' : World) (h : Below W0.heap.size W0 w') => (HX.out.kept h).cell 8 rfl
  go_region_held3 (fun w' => Below W0.heap.size W0 w') (assumption) ((first
    | (go_at_call 13; with_reducible refine (H2.out _ (HA.out.kept ‹Below W0.heap.size W0 _›).ir).mono ?_; rintro e u1 ⟨v1, rfl, hv1, hb1⟩; have hS1 := keep_call ‹Below W0.heap.size W0 _› hb1; have HV1 := Lib.hid hv1; clear hb1 hv1)
    | (go_at_call 14; with_reducible refine (H3.out _ (HA.out.kept ‹Below W0.heap.size W0 _›).ir).mono ?_; rintro e u2 ⟨v2, rfl, hv2, hb2⟩; have hS2 := keep_call ‹Below W0.heap.size W0 _› hb2; have HV2 := Lib.hid hv2; have HV3 := Lib.hid (HV1.out.below hb2); clear hb2 hv2 HV1)
    | (go_at_call 12; with_reducible refine (H10.out _ _ _ HV3.out HV2.out).mono ?_; rintro e u3 ⟨rfl, hb3⟩; have hS3 := keep_call ‹Below W0.heap.size W0 _› hb3; clear hb3)
    | (go_at_call 15; with_reducible refine (G4.out _).mono ?_; rintro e u4 ⟨rfl, hb4⟩; have hS4 := keep_call ‹Below W0.heap.size W0 _› hb4; clear hb4)
    | (go_at_call 16; with_reducible refine (G5.out _).mono ?_; rintro e u5 ⟨rfl, hb5⟩; have hS5 := keep_call ‹Below W0.heap.size W0 _› hb5; clear hb5)
    | (go_at_call 17; with_reducible refine (H6.out _ (HA.out.kept ‹Below W0.heap.size W0 _›).ix (HA.out.kept ‹Below W0.heap.size W0 _›).iy).mono ?_; rintro e u6 ⟨rfl, hb6⟩; have hS6 := keep_call ‹Below W0.heap.size W0 _› hb6; clear hb6)
    | (go_at_call 18; with_reducible refine (H7.out _ (HA.out.kept ‹Below W0.heap.size W0 _›).ix (HA.out.kept ‹Below W0.heap.size W0 _›).iy).mono ?_; rintro e u7 ⟨rfl, hb7⟩; have hS7 := keep_call ‹Below W0.heap.size W0 _› hb7; clear hb7)
    | (go_at_call 19; with_reducible refine (H8.out _ (HA.out.kept ‹Below W0.heap.size W0 _›).ir (HA.out.kept ‹Below W0.heap.size W0 _›).iq).mono ?_; rintro e u8 ⟨rfl, hb8⟩; have hS8 := keep_call ‹Below W0.heap.size W0 _› hb8; clear hb8)
    | (go_at_call 20; with_reducible refine (H9.out _ (HA.out.kept ‹Below W0.heap.size W0 _›).ir (HA.out.kept ‹Below W0.heap.size W0 _›).iq).mono ?_; rintro e u9 ⟨rfl, hb9⟩; have hS9 := keep_call ‹Below W0.heap.size W0 _› hb9; clear hb9)
    | (go_at_call 18; with_reducible refine (HS.out _ (HCI.out.below ‹Below W0.heap.size W0 _›) (HA.out.kept ‹Below W0.heap.size W0 _›).ix).mono ?_; rintro e u10 ⟨rfl, hb10⟩; have hS10 := keep_call ‹Below W0.heap.size W0 _› hb10; clear hb10)
    | (go_at_call 6; with_reducible refine (HAL.out _).mono ?_; rintro e u11 ⟨rfl, hb11⟩; have hS11 := keep_call ‹Below W0.heap.size W0 _› hb11; clear hb11)))
  all_goals
    have HBF := Lib.hid (HB.out.trans (hS11.mono HB.out.size))
    clear Kr0 Kr1 Kr2 Kr3 Kr4 Kr5 Kr6 Kr7 Kq0 Kq1 Kq2 Kq3 Kq4 Kq5 Kq6 Kq7 Kx0 Kx1 Kx2 Kx3 Kx4 Kx5 Kx6 Kx7 Kx8 Ky0 Ky1 Ky2 Ky3 Ky4 Ky5 Ky6 Ky7 Ky8 Kz0 Kz1 Kc0 Kc1 Kc2 Kc3 Kc4 Kc5 Kc6 Kc7 Kc8
    go_wp2
    go_ret
    exact ⟨rfl, HBF.out⟩
end Go.Proofs.Ytmkepmjdckdpgaa
