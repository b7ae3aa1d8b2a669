/- Stage 22: the law TaskWants. -/
import Derived.Test.YtmkepmjdckdpgaaBun13
import Derived.Test.YtmkepmjdckdpgaaTkWM
namespace Go.Proofs.Ytmkepmjdckdpgaa
open Go.RowKit

structure Wn22 (W : World) (n : Nat) (x1 x2 x3 x4 x5 x6 x7 id prio sk ge fx fy tx ty : Int) (ar ax : Option Addr) (cr cx : Nat) (lr : List Ais) (lx : List Int) : Prop where
  r : Blk W n [.int .i64 x1, .int .i64 x2, .int .i64 x3, .int .i64 x4, .int .i64 x5, .int .i64 x6, .int .i64 x7, .slice ar lr.length cr]
  x : Blk W (n + 1) [.int .i64 id, .int .i64 prio, .int .u64 sk, .int .u64 ge, .int .i64 fx, .int .i64 fy, .int .i64 tx, .int .i64 ty, .slice ax lx.length cx]
  ir : AisAt W (.slice ar lr.length cr) lr
  ix : IntsAt W (.slice ax lx.length cx) lx
section
variable {x1 x2 x3 x4 x5 x6 x7 id prio sk ge fx fy tx ty : Int} {ar ax : Option Addr} {cr cx : Nat} {lr : List Ais} {lx : List Int}
theorem Wn22.kept {W W' : World} {n : Nat} (h : Wn22 W n x1 x2 x3 x4 x5 x6 x7 id prio sk ge fx fy tx ty ar ax cr cx lr lx) (hb : Below W.heap.size W W') : Wn22 W' n x1 x2 x3 x4 x5 x6 x7 id prio sk ge fx fy tx ty ar ax cr cx lr lx :=
  ⟨h.r.kept hb, h.x.kept hb, RowsAt.kept h.ir hb, h.ix.below hb⟩
set_option maxRecDepth 100000 in
theorem wn22 (w : World) (hr : AisAt w (.slice ar lr.length cr) lr) (hx : IntsAt w (.slice ax lx.length cx) lx) :
    Wn22 ((w.alloc (.cells #[.int .i64 x1, .int .i64 x2, .int .i64 x3, .int .i64 x4, .int .i64 x5, .int .i64 x6, .int .i64 x7, .slice ar lr.length cr] 30)).alloc (.cells #[.int .i64 id, .int .i64 prio, .int .u64 sk, .int .u64 ge, .int .i64 fx, .int .i64 fy, .int .i64 tx, .int .i64 ty, .slice ax lx.length cx] 27)) w.heap.size x1 x2 x3 x4 x5 x6 x7 id prio sk ge fx fy tx ty ar ax cr cx lr lx ∧ Below w.heap.size w ((w.alloc (.cells #[.int .i64 x1, .int .i64 x2, .int .i64 x3, .int .i64 x4, .int .i64 x5, .int .i64 x6, .int .i64 x7, .slice ar lr.length cr] 30)).alloc (.cells #[.int .i64 id, .int .i64 prio, .int .u64 sk, .int .u64 ge, .int .i64 fx, .int .i64 fy, .int .i64 tx, .int .i64 ty, .slice ax lx.length cx] 27)) := by
  have b1 := (Below.refl w.heap.size w).alloc (Nat.le_refl _) (.cells #[.int .i64 x1, .int .i64 x2, .int .i64 x3, .int .i64 x4, .int .i64 x5, .int .i64 x6, .int .i64 x7, .slice ar lr.length cr] 30)
  have f1 := Blk.new w [.int .i64 x1, .int .i64 x2, .int .i64 x3, .int .i64 x4, .int .i64 x5, .int .i64 x6, .int .i64 x7, .slice ar lr.length cr] 30
  have s1 : (w.alloc (.cells #[.int .i64 x1, .int .i64 x2, .int .i64 x3, .int .i64 x4, .int .i64 x5, .int .i64 x6, .int .i64 x7, .slice ar lr.length cr] 30)).heap.size = w.heap.size + 1 := by simp
  have h1 := hr.kept b1
  have h2 := hx.below b1
  clear hr hx
  generalize w.alloc (.cells #[.int .i64 x1, .int .i64 x2, .int .i64 x3, .int .i64 x4, .int .i64 x5, .int .i64 x6, .int .i64 x7, .slice ar lr.length cr] 30) = W1 at *
  generalize w.heap.size = n at *
  have b2 := (Below.refl W1.heap.size W1).alloc (Nat.le_refl _) (.cells #[.int .i64 id, .int .i64 prio, .int .u64 sk, .int .u64 ge, .int .i64 fx, .int .i64 fy, .int .i64 tx, .int .i64 ty, .slice ax lx.length cx] 27)
  have f2 := Blk.new W1 [.int .i64 id, .int .i64 prio, .int .u64 sk, .int .u64 ge, .int .i64 fx, .int .i64 fy, .int .i64 tx, .int .i64 ty, .slice ax lx.length cx] 27
  rw [s1] at f2
  exact ⟨⟨f1.kept b2, f2, RowsAt.kept h1 b2, h2.below b2⟩, b1.trans (b2.mono (by omega))⟩
end
def csPt22 (p : Int × Int) : List Value := [.int .i64 p.1, .int .i64 p.2]
theorem csPt22_len (p : Int × Int) : (csPt22 p).length = 2 := rfl

set_option maxHeartbeats 16000000 in
set_option maxRecDepth 100000 in
theorem taskWants_any (r : Ru) (x : Sp) (s g a m u : Nat) (w : World) (hr : AisAt w r.v r.ais) (hx : IntsAt w x.v x.aft)
    (hs : x.sk = (s : Int)) (hg : x.ge = (g : Int)) (hs2 : s < 2 ^ 64) (hg2 : g < 2 ^ 64) (ha : a < 2 ^ 64) (hm : m < 2 ^ 64) (hu : u < 2 ^ 64) (hin : x.aft.length ≤ 9223372036854775807) :
    Calls Try.prog 5 #[ruv r, spv x, .int .u64 (a : Int), .int .u64 (m : Int), .int .u64 (u : Int)] w fun e w' => e = .returned (.bool true) ∧ Below w.heap.size w w' := by
  have HAL := Lib.hid fun w => tAlive_any w
  have hrc := rul_cases r
  have hcc := @chk_num x
  have G1 := fun w h h2 => tRules_any r w h h2
  have G2 := fun w h h2 => tCheck_any x w h h2
  have G3 := fun w h h2 => refRules22_any r w h h2
  have G4 := fun w h h2 => refCheck22_any x w h h2
  have G5 := fun w h h2 => tWant_any r x w h h2
  have hwl := want_len22 r x
  have hwt := fun id h => @want_told r x id h
  have hwr := want_rise r x
  have hwe := fun h id px py hp => @want_ends r x h id px py hp
  have G6 := Lib.hid fun w => tFits_any x s g a u w hs hg hs2 hg2 ha hu
  have G7 := Lib.hid fun w => tFits_any x s g (a ||| m) u w hs hg hs2 hg2 (Nat.or_lt_two_pow ha hm) hu
  have G8 := Lib.hid fun w => tFits_any x s g a (u ||| m) w hs hg hs2 hg2 ha (Nat.or_lt_two_pow hu hm)
  have hf : (hasK a s 64 && hasK u g 64) = true → (hasK (a ||| m) s 64 && hasK u g 64) = true ∧ (hasK a s 64 && hasK (u ||| m) g 64) = true := fun h => by
    rw [Bool.and_eq_true] at h
    exact ⟨by rw [has_more h.1, h.2]; rfl, by rw [has_more h.2, h.1]; rfl⟩
  have o1 := u64_or_nat a m ha hm
  have o2 := u64_or_nat u m hu hm
  generalize (hasK a s 64 && hasK u g 64) = f1 at *
  generalize (hasK (a ||| m) s 64 && hasK u g 64) = f2 at *
  generalize (hasK a s 64 && hasK (u ||| m) g 64) = f3 at *
  generalize ((a ||| m : Nat) : Int) = am at *
  generalize ((u ||| m : Nat) : Int) = um at *
  generalize wantL r x = L at *
  obtain ⟨x1, x2, x3, x4, x5, x6, x7, ar, cr, lr⟩ := r
  obtain ⟨id, prio, sk, ge, fx, fy, tx, ty, ax, cx, lx⟩ := x
  dsimp only [Sp.v, spv, Ru.v, ruv] at *
  obtain ⟨A, hA⟩ : ∃ A : Int, (a : Int) = A := ⟨_, rfl⟩
  obtain ⟨U, hU⟩ : ∃ U : Int, (u : Int) = U := ⟨_, rfl⟩
  obtain ⟨M, hM⟩ : ∃ M : Int, (m : Int) = M := ⟨_, rfl⟩
  simp only [hA, hU, hM] at G6 G7 G8 o1 o2 ⊢
  clear hs hg hs2 hg2 ha hm hu hA hU hM
  obtain ⟨hA, hB⟩ := wn22 (x1 := x1) (x2 := x2) (x3 := x3) (x4 := x4) (x5 := x5) (x6 := x6) (x7 := x7) (id := id) (prio := prio) (sk := sk) (ge := ge) (fx := fx) (fy := fy) (tx := tx) (ty := ty) w hr hx
  have HA := Lib.hid hA
  have HB := Lib.hid hB
  clear hA hB hr hx
  have r0 := HA.out.r.cell 0 rfl
  have r1 := HA.out.r.cell 1 rfl
  have r2 := HA.out.r.cell 2 rfl
  have r3 := HA.out.r.cell 3 rfl
  have r4 := HA.out.r.cell 4 rfl
  have r5 := HA.out.r.cell 5 rfl
  have r6 := HA.out.r.cell 6 rfl
  have r7 := HA.out.r.cell 7 rfl
  by_cases h1 : (40 : Int) < (lr.length : Int)
  · go_enter Try.func5, Try.ntmps5
    go_wp2_with (go_at_call 6; (with_reducible refine (HAL.out _).mono ?_); rintro e w1 ⟨rfl, hb⟩; replace HB := Lib.hid (HB.out.trans (hb.mono HB.out.size)); clear hb)
    go_ret
    exact ⟨rfl, HB.out⟩
  have H1 := Lib.hid fun w h => G1 w h (by omega)
  have H2 := Lib.hid fun w h => G2 w h hin
  have H3 := Lib.hid fun w h => G3 w h (by omega)
  have H4 := Lib.hid fun w h => G4 w h hin
  have H5 := Lib.hid fun w h => G5 w h (by omega)
  clear G1 G2 G3 G4 G5 hin
  rcases hrc with e | e | ⟨e, hright⟩
  iterate 2
    rw [e] at H1 H3
    go_enter Try.func5, Try.ntmps5
    go_wp2_with (first | (go_at_call 9; (with_reducible refine (H1.out _ HA.out.ir).mono ?_); rintro e w1 ⟨rfl, hb⟩; replace HB := Lib.hid (HB.out.trans (hb.mono HB.out.size)); replace HA := Lib.hid (HA.out.kept hb); clear hb r0 r1 r2 r3 r4 r5 r6 r7; have x0 := HA.out.x.cell 0 rfl; have x1 := HA.out.x.cell 1 rfl; have x2 := HA.out.x.cell 2 rfl; have x3 := HA.out.x.cell 3 rfl; have x4 := HA.out.x.cell 4 rfl; have x5 := HA.out.x.cell 5 rfl; have x6 := HA.out.x.cell 6 rfl; have x7 := HA.out.x.cell 7 rfl; have x8 := HA.out.x.cell 8 rfl; have r0 := HA.out.r.cell 0 rfl; have r1 := HA.out.r.cell 1 rfl; have r2 := HA.out.r.cell 2 rfl; have r3 := HA.out.r.cell 3 rfl; have r4 := HA.out.r.cell 4 rfl; have r5 := HA.out.r.cell 5 rfl; have r6 := HA.out.r.cell 6 rfl; have r7 := HA.out.r.cell 7 rfl) | (go_at_call 6; (with_reducible refine (HAL.out _).mono ?_); rintro e w1 ⟨rfl, hb⟩; replace HB := Lib.hid (HB.out.trans (hb.mono HB.out.size)); clear hb))
    go_ret
    exact ⟨rfl, HB.out⟩
  rw [e] at H1 H3
  rcases hcc with e2 | e2 | ⟨e2, hnum⟩
  iterate 2
    rw [e2] at H2 H4
    go_enter Try.func5, Try.ntmps5
    go_wp2_with (first | (go_at_call 9; (with_reducible refine (H1.out _ HA.out.ir).mono ?_); rintro e w1 ⟨rfl, hb⟩; replace HB := Lib.hid (HB.out.trans (hb.mono HB.out.size)); replace HA := Lib.hid (HA.out.kept hb); clear hb r0 r1 r2 r3 r4 r5 r6 r7; have x0 := HA.out.x.cell 0 rfl; have x1 := HA.out.x.cell 1 rfl; have x2 := HA.out.x.cell 2 rfl; have x3 := HA.out.x.cell 3 rfl; have x4 := HA.out.x.cell 4 rfl; have x5 := HA.out.x.cell 5 rfl; have x6 := HA.out.x.cell 6 rfl; have x7 := HA.out.x.cell 7 rfl; have x8 := HA.out.x.cell 8 rfl; have r0 := HA.out.r.cell 0 rfl; have r1 := HA.out.r.cell 1 rfl; have r2 := HA.out.r.cell 2 rfl; have r3 := HA.out.r.cell 3 rfl; have r4 := HA.out.r.cell 4 rfl; have r5 := HA.out.r.cell 5 rfl; have r6 := HA.out.r.cell 6 rfl; have r7 := HA.out.r.cell 7 rfl) | (go_at_call 7; (with_reducible refine (H2.out _ HA.out.ix).mono ?_); rintro e w2 ⟨rfl, hb⟩; replace HB := Lib.hid (HB.out.trans (hb.mono HB.out.size)); replace HA := Lib.hid (HA.out.kept hb); clear hb x0 x1 x2 x3 x4 x5 x6 x7 x8 r0 r1 r2 r3 r4 r5 r6 r7; have x0 := HA.out.x.cell 0 rfl; have x1 := HA.out.x.cell 1 rfl; have x2 := HA.out.x.cell 2 rfl; have x3 := HA.out.x.cell 3 rfl; have x4 := HA.out.x.cell 4 rfl; have x5 := HA.out.x.cell 5 rfl; have x6 := HA.out.x.cell 6 rfl; have x7 := HA.out.x.cell 7 rfl; have x8 := HA.out.x.cell 8 rfl; have r0 := HA.out.r.cell 0 rfl; have r1 := HA.out.r.cell 1 rfl; have r2 := HA.out.r.cell 2 rfl; have r3 := HA.out.r.cell 3 rfl; have r4 := HA.out.r.cell 4 rfl; have r5 := HA.out.r.cell 5 rfl; have r6 := HA.out.r.cell 6 rfl; have r7 := HA.out.r.cell 7 rfl) | (go_at_call 6; (with_reducible refine (HAL.out _).mono ?_); rintro e w1 ⟨rfl, hb⟩; replace HB := Lib.hid (HB.out.trans (hb.mono HB.out.size)); clear hb))
    go_ret
    exact ⟨rfl, HB.out⟩
  rw [e2] at H2 H4
  clear e e2
  have HWT := Lib.hid hwt
  have HWR := Lib.hid hwr
  have HWE := Lib.hid (hwe hnum)
  have HWL := Lib.hid hwl
  have HRP := Lib.hid hright
  have HF := Lib.hid hf
  have O1 := Lib.hid o1
  have O2 := Lib.hid o2
  have hlr : lr.length ≤ 40 := by omega
  have HLR := Lib.hid hlr
  clear hwt hwr hwe hwl hright hnum hf o1 o2 hlr
  go_enter Try.func5, Try.ntmps5
  go_wp2_with (first | (go_at_call 9; (with_reducible refine (H1.out _ HA.out.ir).mono ?_); rintro e w1 ⟨rfl, hb⟩; replace HB := Lib.hid (HB.out.trans (hb.mono HB.out.size)); replace HA := Lib.hid (HA.out.kept hb); clear hb r0 r1 r2 r3 r4 r5 r6 r7; have x0 := HA.out.x.cell 0 rfl; have x1 := HA.out.x.cell 1 rfl; have x2 := HA.out.x.cell 2 rfl; have x3 := HA.out.x.cell 3 rfl; have x4 := HA.out.x.cell 4 rfl; have x5 := HA.out.x.cell 5 rfl; have x6 := HA.out.x.cell 6 rfl; have x7 := HA.out.x.cell 7 rfl; have x8 := HA.out.x.cell 8 rfl; have r0 := HA.out.r.cell 0 rfl; have r1 := HA.out.r.cell 1 rfl; have r2 := HA.out.r.cell 2 rfl; have r3 := HA.out.r.cell 3 rfl; have r4 := HA.out.r.cell 4 rfl; have r5 := HA.out.r.cell 5 rfl; have r6 := HA.out.r.cell 6 rfl; have r7 := HA.out.r.cell 7 rfl) | (go_at_call 7; (with_reducible refine (H2.out _ HA.out.ix).mono ?_); rintro e w2 ⟨rfl, hb⟩; replace HB := Lib.hid (HB.out.trans (hb.mono HB.out.size)); replace HA := Lib.hid (HA.out.kept hb); clear hb x0 x1 x2 x3 x4 x5 x6 x7 x8 r0 r1 r2 r3 r4 r5 r6 r7; have x0 := HA.out.x.cell 0 rfl; have x1 := HA.out.x.cell 1 rfl; have x2 := HA.out.x.cell 2 rfl; have x3 := HA.out.x.cell 3 rfl; have x4 := HA.out.x.cell 4 rfl; have x5 := HA.out.x.cell 5 rfl; have x6 := HA.out.x.cell 6 rfl; have x7 := HA.out.x.cell 7 rfl; have x8 := HA.out.x.cell 8 rfl; have r0 := HA.out.r.cell 0 rfl; have r1 := HA.out.r.cell 1 rfl; have r2 := HA.out.r.cell 2 rfl; have r3 := HA.out.r.cell 3 rfl; have r4 := HA.out.r.cell 4 rfl; have r5 := HA.out.r.cell 5 rfl; have r6 := HA.out.r.cell 6 rfl; have r7 := HA.out.r.cell 7 rfl) | (go_at_call 10; (with_reducible refine (H3.out _ HA.out.ir).mono ?_); rintro e w3 ⟨rfl, hb⟩; replace HB := Lib.hid (HB.out.trans (hb.mono HB.out.size)); replace HA := Lib.hid (HA.out.kept hb); clear hb x0 x1 x2 x3 x4 x5 x6 x7 x8 r0 r1 r2 r3 r4 r5 r6 r7; have x0 := HA.out.x.cell 0 rfl; have x1 := HA.out.x.cell 1 rfl; have x2 := HA.out.x.cell 2 rfl; have x3 := HA.out.x.cell 3 rfl; have x4 := HA.out.x.cell 4 rfl; have x5 := HA.out.x.cell 5 rfl; have x6 := HA.out.x.cell 6 rfl; have x7 := HA.out.x.cell 7 rfl; have x8 := HA.out.x.cell 8 rfl; have r0 := HA.out.r.cell 0 rfl; have r1 := HA.out.r.cell 1 rfl; have r2 := HA.out.r.cell 2 rfl; have r3 := HA.out.r.cell 3 rfl; have r4 := HA.out.r.cell 4 rfl; have r5 := HA.out.r.cell 5 rfl; have r6 := HA.out.r.cell 6 rfl; have r7 := HA.out.r.cell 7 rfl) | (go_at_call 8; (with_reducible refine (H4.out _ HA.out.ix).mono ?_); rintro e w4 ⟨rfl, hb⟩; replace HB := Lib.hid (HB.out.trans (hb.mono HB.out.size)); replace HA := Lib.hid (HA.out.kept hb); clear hb x0 x1 x2 x3 x4 x5 x6 x7 x8 r0 r1 r2 r3 r4 r5 r6 r7; have x0 := HA.out.x.cell 0 rfl; have x1 := HA.out.x.cell 1 rfl; have x2 := HA.out.x.cell 2 rfl; have x3 := HA.out.x.cell 3 rfl; have x4 := HA.out.x.cell 4 rfl; have x5 := HA.out.x.cell 5 rfl; have x6 := HA.out.x.cell 6 rfl; have x7 := HA.out.x.cell 7 rfl; have x8 := HA.out.x.cell 8 rfl; have r0 := HA.out.r.cell 0 rfl; have r1 := HA.out.r.cell 1 rfl; have r2 := HA.out.r.cell 2 rfl; have r3 := HA.out.r.cell 3 rfl; have r4 := HA.out.r.cell 4 rfl; have r5 := HA.out.r.cell 5 rfl; have r6 := HA.out.r.cell 6 rfl; have r7 := HA.out.r.cell 7 rfl) | (go_at_call 13; (with_reducible refine (H5.out _ HA.out.ir).mono ?_); rintro e w5 ⟨v, rfl, hv, hb⟩; replace HB := Lib.hid (HB.out.trans (hb.mono HB.out.size)); replace HA := Lib.hid (HA.out.kept hb); clear hb x0 x1 x2 x3 x4 x5 x6 x7 x8 r0 r1 r2 r3 r4 r5 r6 r7; have HL := Lib.hid hv; obtain ⟨al, cl, e⟩ := hv.form; subst e; clear hv; have r0 := HA.out.r.cell 0 rfl; have r1 := HA.out.r.cell 1 rfl; have r2 := HA.out.r.cell 2 rfl; have r3 := HA.out.r.cell 3 rfl; have r4 := HA.out.r.cell 4 rfl; have r5 := HA.out.r.cell 5 rfl; have r6 := HA.out.r.cell 6 rfl; have r7 := HA.out.r.cell 7 rfl))
  go_loopg [54] L.length (fun kx iv ws => ∃ k : Nat, k ≤ L.length ∧ L.length - k ≤ kx ∧ iv = .int .i64 k ∧ Hid (Below w5.heap.size w5 ws))
  case atStart => exact ⟨0, Nat.zero_le _, Nat.le_refl _, rfl, Below.refl _ _⟩
  case round =>
    obtain ⟨k, hk, hkx, rfl, HB1⟩ := hrel
    have k0 : (0 : Int) ≤ (k : Int) := by omega
    have k2 : (k : Int) ≤ 1000 := by have := HLR.out; have := HWL.out; omega
    clear r0 r1 r2 r3 r4 r5 r6 r7
    have r7 := (HA.out.kept HB1.out).r.cell 7 rfl
    by_cases hlt : k < L.length
    · have HLT := Lib.hid (And.intro hlt hkx)
      obtain ⟨g, o, cc, e, hlc, _, p0⟩ := IntsAt.spot (HL.out.below HB1.out) k hlt
      cases e
      have k1 : (k : Int) < (L.length : Int) := by omega
      have hn : L[k]? = some L[k] := List.getElem?_eq_getElem hlt
      have hany := HWT.out L[k] (List.getElem_mem hlt)
      generalize L[k] = n at *
      have HN := Lib.hid hn
      have HANY := Lib.hid hany
      clear hn hany hlt hk hkx
      go_wp2
      go_loopg [14, 62] lr.length (fun jx sv jv ws => ∃ j : Nat, j ≤ lr.length ∧ lr.length - j ≤ jx ∧ jv = .int .i64 j ∧ sv = .bool ((lr.take j).any fun a => a.id == n) ∧ Hid (Below w5.heap.size w5 ws))
      case atStart => exact ⟨0, Nat.zero_le _, Nat.le_refl _, rfl, rfl, HB1.out⟩
      case round =>
        obtain ⟨j, hj, hjx, rfl, rfl, HB2⟩ := hrel
        have j0 : (0 : Int) ≤ (j : Int) := by omega
        have j2 : (j : Int) ≤ 1000 := by have := HLR.out; omega
        by_cases hjt : j < lr.length
        · have HJT := Lib.hid (And.intro hjt hjx)
          have j1 : (j : Int) < (lr.length : Int) := by omega
          have hnx := any_next lr (fun a => a.id == n) j hjt
          obtain ⟨g', o', c', i, a1, a2, b1, b2, hlk, ev, hc, hg, q0, q1, q2, q3, q4⟩ := AisAt.spot (RowsAt.kept HA.out.ir HB2.out) j hjt
          cases ev
          rw [hlk] at hnx
          dsimp only at hnx
          have hX := Blk.new wr [.int .i64 i, .int .i64 a1, .int .i64 a2, .int .i64 b1, .int .i64 b2] 45
          have d0 := hX.cell 0 rfl
          have HB3 := Lib.hid (HB2.out.alloc HB2.out.size (.cells #[.int .i64 i, .int .i64 a1, .int .i64 a2, .int .i64 b1, .int .i64 b2] 45))
          generalize (lr.take j).any (fun a => a.id == n) = b at *
          clear hX hlk hjt hj hjx
          cases b with
          | true =>
            have HNX := Lib.hid (hnx.trans (Bool.true_or _))
            clear hnx
            go_wp2
            go_roundg (lr.length - (j + 1))
            case measure => have := HJT.out; omega
            case rel => exact ⟨j + 1, by have := HJT.out; omega, Nat.le_refl _, by go_num, by rw [HNX.out], HB3.out⟩
          | false =>
            rw [Bool.false_or] at hnx
            by_cases he : i = n
            · subst he
              have HNX := Lib.hid (hnx.trans (beq_self_eq_true _))
              clear hnx
              go_wp2
              go_roundg (lr.length - (j + 1))
              case measure => have := HJT.out; omega
              case rel => exact ⟨j + 1, by have := HJT.out; omega, Nat.le_refl _, by go_num, by rw [HNX.out], HB3.out⟩
            · have hne := beq_noI he
              have HNX := Lib.hid (hnx.trans hne)
              clear hnx he
              go_wp2
              go_roundg (lr.length - (j + 1))
              case measure => have := HJT.out; omega
              case rel => exact ⟨j + 1, by have := HJT.out; omega, Nat.le_refl _, by go_num, by rw [HNX.out], HB3.out⟩
        · have hje : j = lr.length := by omega
          subst hje
          rw [List.take_length, HANY.out]
          clear hjt hj hjx
          by_cases hk0 : k = 0
          · have k3 : ¬ (0 : Int) < (k : Int) := by omega
            clear hk0
            go_wp2
            go_roundg (L.length - (k + 1))
            case measure => have := HLT.out; omega
            case rel => exact ⟨k + 1, by have := HLT.out; omega, Nat.le_refl _, by go_num, HB2.out⟩
          · obtain ⟨p, rfl⟩ : ∃ p, k = p + 1 := ⟨k - 1, by omega⟩
            have hpl : p < L.length := by have := HLT.out; omega
            obtain ⟨g', o', c', e, _, _, q0⟩ := IntsAt.spot (HL.out.below HB2.out) p hpl
            cases e
            have hpr := HWR.out (p + 1) p L[p] n (by omega) (List.getElem?_eq_getElem hpl) HN.out
            generalize L[p] = y at *
            have k3 : (0 : Int) < ((p + 1 : Nat) : Int) := by omega
            have k4 : ((p + 1 : Nat) : Int) - 1 = (p : Int) := by omega
            have k5 : (0 : Int) ≤ (p : Int) := by omega
            have k6 : (p : Int) < (L.length : Int) := by omega
            have k7 : (p : Int) ≤ 1000 := by omega
            have k8 : ¬ n ≤ y := by omega
            clear hpl hk0 hpr
            go_wp2
            go_roundg (L.length - (p + 1 + 1))
            case measure => have := HLT.out; omega
            case rel => exact ⟨p + 1 + 1, by have := HLT.out; omega, Nat.le_refl _, by go_num, HB2.out⟩
    · have hke : k = L.length := by omega
      subst hke
      have HA6 := Lib.hid (HA.out.kept HB1.out)
      have x4 := HA6.out.x.cell 4 rfl
      have x5 := HA6.out.x.cell 5 rfl
      have x6 := HA6.out.x.cell 6 rfl
      have x7 := HA6.out.x.cell 7 rfl
      have hal := (Below.refl wr.heap.size wr).alloc (Nat.le_refl _) (.cells #[.int .i64 fx, .int .i64 fy, .int .i64 tx, .int .i64 ty] 24)
      have hpt := rowsLit csPt22_len wr [(fx, fy), (tx, ty)] 24 2 rfl
      change RowsAt (wr.alloc (.cells #[.int .i64 fx, .int .i64 fy, .int .i64 tx, .int .i64 ty] 24)) _ _ _ _ at hpt
      have HPT := Lib.hid hpt
      have HA7 := Lib.hid (HA6.out.kept hal)
      have HL7 := Lib.hid ((HL.out.below HB1.out).below hal)
      have HB7 := Lib.hid (HB.out.trans ((HB1.out.mono HB.out.size).trans (hal.mono (Nat.le_trans HB.out.size HB1.out.size))))
      clear hlt hk hkx hal hpt HL
      go_wp2
      generalize hW7 : wr.alloc (.cells #[.int .i64 fx, .int .i64 fy, .int .i64 tx, .int .i64 ty] 24) = W7 at *
      generalize wr.heap.size = nb at *
      clear hW7 x4 x5 x6 x7 r7
      go_loopg [96] 2 (fun qx qv ws => ∃ q : Nat, q ≤ 2 ∧ 2 - q ≤ qx ∧ qv = .int .i64 q ∧ Hid (Below W7.heap.size W7 ws))
      case atStart => exact ⟨0, by omega, by omega, rfl, Below.refl _ _⟩
      case round =>
        obtain ⟨q, hq, hqx, rfl, HB8⟩ := hrel
        have q0 : (0 : Int) ≤ (q : Int) := by omega
        have q2 : (q : Int) ≤ 2 := by omega
        have HA8 := Lib.hid (HA7.out.kept HB8.out)
        have r7 := HA8.out.r.cell 7 rfl
        by_cases hqt : q < 2
        · have HQT := Lib.hid (And.intro hqt hqx)
          have q1 : (q : Int) < 2 := by omega
          obtain ⟨g', o', c', e, _, _, hx⟩ := RowsAt.spot (RowsAt.kept HPT.out HB8.out) q hqt
          cases e
          have hp : ([(fx, fy), (tx, ty)][q].1 = fx ∧ [(fx, fy), (tx, ty)][q].2 = fy) ∨ ([(fx, fy), (tx, ty)][q].1 = tx ∧ [(fx, fy), (tx, ty)][q].2 = ty) := by
            match q, hqt with
            | 0, _ => exact .inl ⟨rfl, rfl⟩
            | 1, _ => exact .inr ⟨rfl, rfl⟩
          generalize [(fx, fy), (tx, ty)][q] = pt at *
          obtain ⟨px, py⟩ := pt
          dsimp only at hp
          have p0 := hx 0 _ rfl
          have p1 := hx 1 _ rfl
          dsimp only at p0 p1
          rw [Nat.add_zero, Nat.zero_add] at p0
          rw [Nat.zero_add] at p1
          have hwe := fun id => HWE.out id px py hp
          have GA := Lib.hid fun w h => pAt_any (.slice ar lr.length cr) lr px py w h (by have := HLR.out; omega)
          obtain ⟨aid, ok, hao⟩ : ∃ aid ok, atL lr px py = (aid, ok) := ⟨_, _, rfl⟩
          rw [hao] at hwe GA
          dsimp only at GA
          have hX := Blk.new wr [.int .i64 px, .int .i64 py] 24
          have d0 := hX.cell 0 rfl
          have d1 := hX.cell 1 rfl
          have hal := (Below.refl wr.heap.size wr).alloc (Nat.le_refl _) (.cells #[.int .i64 px, .int .i64 py] 24)
          have HA9 := Lib.hid (HA8.out.kept hal)
          have HB9 := Lib.hid (HB8.out.trans (hal.mono HB8.out.size))
          have r7' := HA9.out.r.cell 7 rfl
          clear hx hp hao hX hal hqt hq hqx
          cases ok with
          | false =>
            clear hwe
            go_wp2_with (go_at_call 21; (with_reducible refine (GA.out _ HA9.out.ir).mono ?_); rintro e w9 ⟨rfl, hb9⟩; have HB10 := Lib.hid (HB9.out.trans (hb9.mono HB9.out.size)); clear hb9)
            go_roundg (2 - (q + 1))
            case measure => have := HQT.out; omega
            case rel => exact ⟨q + 1, by have := HQT.out; omega, Nat.le_refl _, by go_num, HB10.out⟩
          | true =>
            have HHAS := Lib.hid (any_has (hwe aid rfl))
            clear hwe
            go_wp2_with (go_at_call 21; (with_reducible refine (GA.out _ HA9.out.ir).mono ?_); rintro e w9 ⟨rfl, hb9⟩; have HB10 := Lib.hid (HB9.out.trans (hb9.mono HB9.out.size)); clear hb9)
            go_loopg [21, 110] L.length (fun jx sv jv ws => ∃ j : Nat, j ≤ L.length ∧ L.length - j ≤ jx ∧ jv = .int .i64 j ∧ sv = .bool ((L.take j).any fun m => m == aid) ∧ Hid (Below W7.heap.size W7 ws))
            case atStart => exact ⟨0, Nat.zero_le _, Nat.le_refl _, rfl, rfl, HB10.out⟩
            case round =>
              obtain ⟨j, hj, hjx, rfl, rfl, HB11⟩ := hrel
              have j0 : (0 : Int) ≤ (j : Int) := by omega
              have j2 : (j : Int) ≤ 1000 := by have := HLR.out; have := HWL.out; omega
              by_cases hjt : j < L.length
              · have HJT := Lib.hid (And.intro hjt hjx)
                have j1 : (j : Int) < (L.length : Int) := by omega
                have hnx := any_next L (fun m => m == aid) j hjt
                obtain ⟨g2, o2, c2, e, _, _, s0⟩ := IntsAt.spot (HL7.out.below HB11.out) j hjt
                cases e
                generalize L[j] = y at *
                generalize (L.take j).any (fun m => m == aid) = b at *
                clear hjt hj hjx
                cases b with
                | true =>
                  have HNX := Lib.hid (hnx.trans (Bool.true_or _))
                  clear hnx
                  go_wp2
                  go_roundg (L.length - (j + 1))
                  case measure => have := HJT.out; omega
                  case rel => exact ⟨j + 1, by have := HJT.out; omega, Nat.le_refl _, by go_num, by rw [HNX.out], HB11.out⟩
                | false =>
                  rw [Bool.false_or] at hnx
                  by_cases he : y = aid
                  · subst he
                    have HNX := Lib.hid (hnx.trans (beq_self_eq_true _))
                    clear hnx
                    go_wp2
                    go_roundg (L.length - (j + 1))
                    case measure => have := HJT.out; omega
                    case rel => exact ⟨j + 1, by have := HJT.out; omega, Nat.le_refl _, by go_num, by rw [HNX.out], HB11.out⟩
                  · have hne := beq_noI he
                    have HNX := Lib.hid (hnx.trans hne)
                    clear hnx he
                    go_wp2
                    go_roundg (L.length - (j + 1))
                    case measure => have := HJT.out; omega
                    case rel => exact ⟨j + 1, by have := HJT.out; omega, Nat.le_refl _, by go_num, by rw [HNX.out], HB11.out⟩
              · have hje : j = L.length := by omega
                subst hje
                rw [List.take_length, HHAS.out]
                clear hjt hj hjx
                go_wp2
                go_roundg (2 - (q + 1))
                case measure => have := HQT.out; omega
                case rel => exact ⟨q + 1, by have := HQT.out; omega, Nat.le_refl _, by go_num, HB11.out⟩
        · have hqe : q = 2 := by omega
          subst hqe
          have hlen : ¬ (lr.length : Int) < (L.length : Int) := by have := HWL.out; omega
          have GR := Lib.hid fun w h => refPRight_any (.slice ar lr.length cr) lr w h (by have := HLR.out; omega)
          rw [HRP.out] at GR
          have HBZ := Lib.hid (HB7.out.trans (HB8.out.mono HB7.out.size))
          clear hqt hq hqx
          replace HA := HA8
          clear HA8 HA7 HA6
          have o1 := O1.out
          have o2 := O2.out
          have hf := HF.out
          cases f1 with
          | false =>
            clear hf
            go_wp2_with (first
              | (go_at_call 22; (with_reducible refine (GR.out _ HA.out.ir).mono ?_); rintro e wa ⟨rfl, hb⟩; replace HBZ := Lib.hid (HBZ.out.trans (hb.mono HBZ.out.size)); replace HA := Lib.hid (HA.out.kept hb); clear hb; have x0 := HA.out.x.cell 0 rfl; have x1 := HA.out.x.cell 1 rfl; have x2 := HA.out.x.cell 2 rfl; have x3 := HA.out.x.cell 3 rfl; have x4 := HA.out.x.cell 4 rfl; have x5 := HA.out.x.cell 5 rfl; have x6 := HA.out.x.cell 6 rfl; have x7 := HA.out.x.cell 7 rfl; have x8 := HA.out.x.cell 8 rfl)
              | (go_at_call 15; (with_reducible refine (G6.out _).mono ?_); rintro e wb ⟨rfl, hb⟩; replace HBZ := Lib.hid (HBZ.out.trans (hb.mono HBZ.out.size)); replace HA := Lib.hid (HA.out.kept hb); clear hb)
              | (go_at_call 6; (with_reducible refine (HAL.out _).mono ?_); rintro e wc ⟨rfl, hb⟩; replace HBZ := Lib.hid (HBZ.out.trans (hb.mono HBZ.out.size)); clear hb))
            go_ret
            exact ⟨rfl, HBZ.out⟩
          | true =>
            obtain ⟨rfl, rfl⟩ := hf rfl
            clear hf
            go_wp2_with (first
              | (go_at_call 22; (with_reducible refine (GR.out _ HA.out.ir).mono ?_); rintro e wa ⟨rfl, hb⟩; replace HBZ := Lib.hid (HBZ.out.trans (hb.mono HBZ.out.size)); replace HA := Lib.hid (HA.out.kept hb); clear hb; have x0 := HA.out.x.cell 0 rfl; have x1 := HA.out.x.cell 1 rfl; have x2 := HA.out.x.cell 2 rfl; have x3 := HA.out.x.cell 3 rfl; have x4 := HA.out.x.cell 4 rfl; have x5 := HA.out.x.cell 5 rfl; have x6 := HA.out.x.cell 6 rfl; have x7 := HA.out.x.cell 7 rfl; have x8 := HA.out.x.cell 8 rfl)
              | (go_at_call 15; (with_reducible refine (G6.out _).mono ?_); rintro e wb ⟨rfl, hb⟩; replace HBZ := Lib.hid (HBZ.out.trans (hb.mono HBZ.out.size)); replace HA := Lib.hid (HA.out.kept hb); clear hb x0 x1 x2 x3 x4 x5 x6 x7 x8; have x0 := HA.out.x.cell 0 rfl; have x1 := HA.out.x.cell 1 rfl; have x2 := HA.out.x.cell 2 rfl; have x3 := HA.out.x.cell 3 rfl; have x4 := HA.out.x.cell 4 rfl; have x5 := HA.out.x.cell 5 rfl; have x6 := HA.out.x.cell 6 rfl; have x7 := HA.out.x.cell 7 rfl; have x8 := HA.out.x.cell 8 rfl)
              | (go_at_call 15; (with_reducible refine (G7.out _).mono ?_); rintro e wd ⟨rfl, hb⟩; replace HBZ := Lib.hid (HBZ.out.trans (hb.mono HBZ.out.size)); replace HA := Lib.hid (HA.out.kept hb); clear hb x0 x1 x2 x3 x4 x5 x6 x7 x8; have x0 := HA.out.x.cell 0 rfl; have x1 := HA.out.x.cell 1 rfl; have x2 := HA.out.x.cell 2 rfl; have x3 := HA.out.x.cell 3 rfl; have x4 := HA.out.x.cell 4 rfl; have x5 := HA.out.x.cell 5 rfl; have x6 := HA.out.x.cell 6 rfl; have x7 := HA.out.x.cell 7 rfl; have x8 := HA.out.x.cell 8 rfl)
              | (go_at_call 15; (with_reducible refine (G8.out _).mono ?_); rintro e we ⟨rfl, hb⟩; replace HBZ := Lib.hid (HBZ.out.trans (hb.mono HBZ.out.size)); clear hb)
              | (go_at_call 6; (with_reducible refine (HAL.out _).mono ?_); rintro e wc ⟨rfl, hb⟩; replace HBZ := Lib.hid (HBZ.out.trans (hb.mono HBZ.out.size)); clear hb))
            go_ret
            exact ⟨rfl, HBZ.out⟩
end Go.Proofs.Ytmkepmjdckdpgaa
