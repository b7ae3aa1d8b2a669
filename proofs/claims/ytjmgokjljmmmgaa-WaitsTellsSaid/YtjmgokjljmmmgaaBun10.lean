/- Texts of this proof, joined: WaRefH; WaRefI; Sorted; IsMath; IsA; IsB; IsC; IsD; IsE. -/
import Derived.Test.YtjmgokjljmmmgaaBun9
import Derived.Sort.Grow
import Derived.Sort.EncStr
import Derived.Lib.SlicesCompact
import Derived.Lib.RowBridge
import Derived.Shelf.Abstract
import Derived.Deep.AppendLies
import Derived.Deep.DeepCutAuto
/- Stage 21: the document's Ready, Few, Arrows. -/
namespace Go.Proofs.Ytjmgokjljmmmgaa
open Go.RowKit

theorem ready_le (Xs : List Le) (Ls : List Lr) : (readyW Xs Ls).length ≤ Xs.length := by
  unfold readyW
  rw [List.length_map]
  exact List.length_filter_le ..
set_option maxHeartbeats 16000000 in
set_option maxRecDepth 100000 in
theorem refReadyW_any (vx vl : Value) (Xs : List Le) (Ls : List Lr) (W : World) (hx : LeasesAt W vx Xs) (hl : LocksAt W vl Ls) (hxl : Xs.length ≤ 1000) (hll : Ls.length ≤ 1000) (hxw : ∀ x ∈ Xs, x.want.length ≤ 1000) (hlw : ∀ x ∈ Ls, x.wait.length ≤ 1000) :
    Calls Try.prog 17 #[vx, vl] W fun e w' => ∃ v, e = .returned v ∧ IntsAt w' v (readyW Xs Ls) ∧ Below W.heap.size W w' := by
  have HX := Lib.hid hx
  have HL := Lib.hid hl
  have HXL := Lib.hid hxl
  have HLL := Lib.hid hll
  have HXW := Lib.hid hxw
  have HLW := Lib.hid hlw
  obtain ⟨ax, cx, rfl⟩ := RowsAt.form hx.rows
  obtain ⟨al, cl, rfl⟩ := RowsAt.form hl.rows
  have hb0 := Below.refl W.heap.size W
  clear hx hl hxl hll hxw hlw
  go_enter Try.func17, Try.ntmps17
  go_wp2
  go_loopg [5, 6] Xs.length (fun kx sv iv ws => ∃ k : Nat, k ≤ Xs.length ∧ Xs.length - k ≤ kx ∧ iv = .int .i64 k ∧ Hid (OwnI ws W.heap.size sv (readyW (Xs.take k) Ls)) ∧ Hid (Below W.heap.size W ws))
  case atStart => exact ⟨0, Nat.zero_le _, Nat.le_refl _, rfl, OwnR.nil _ _ _ _ _, hb0⟩
  case round =>
    clear hb0
    obtain ⟨k, hk, hkx, rfl, HO, HB⟩ := hrel
    obtain ⟨aT, cT, e⟩ := (OwnI.ints HO.out).form
    subst e
    by_cases hlt : k < Xs.length
    · have HLT := Lib.hid (And.intro hlt hkx)
      have k0 : (0 : Int) ≤ (k : Int) := by omega
      have k1 : (k : Int) < (Xs.length : Int) := by omega
      have k2 : (k : Int) ≤ 1000 := by have := HXL.out; omega
      obtain ⟨g, o, cc, e, _, _, p0, p1, p2, p3, p4, p5, p6⟩ := leaseAt (RowsAt.kept HX.out.rows HB.out) k hlt
      cases e
      have hxi := (HX.out.each _ (List.getElem_mem hlt)).below HB.out
      have hxw := HXW.out _ (List.getElem_mem hlt)
      have hnx := ready_next Xs Ls k hlt
      have hla := LocksAt.below HL.out HB.out
      have hal : (readyW (Xs.take k) Ls).length ≤ 1000 := by
        have := ready_le (Xs.take k) Ls
        rw [List.length_take] at this
        have := HXL.out
        omega
      obtain ⟨x, hx⟩ : ∃ x, Xs[k]'hlt = x := ⟨_, rfl⟩
      rw [hx] at p0 p1 p2 p3 p4 p5 p6 hxi hxw hnx
      have hbx := (Below.refl wr.heap.size wr).alloc (Nat.le_refl _) (.cells #[.int .i64 x.token, .int .i64 x.task, .int .i64 x.worker, .int .i64 x.unit, .int .i64 x.due, .int .i64 x.got, .slice x.a x.want.length x.c] 35)
      have hX := Blk.new wr [.int .i64 x.token, .int .i64 x.task, .int .i64 x.worker, .int .i64 x.unit, .int .i64 x.due, .int .i64 x.got, .slice x.a x.want.length x.c] 35
      have GW := Lib.hid (refWaits21_any x (.slice al Ls.length cl) Ls (wr.alloc (.cells #[.int .i64 x.token, .int .i64 x.task, .int .i64 x.worker, .int .i64 x.unit, .int .i64 x.due, .int .i64 x.got, .slice x.a x.want.length x.c] 35)) (hla.below hbx).rows (hxi.below hbx) HLL.out hxw)
      have hwc := wt_cases Ls x
      have hrx : readyX Ls x = (decide (x.got = (x.want.length : Int)) || ((awX Ls x).map fun k => (k.holder == 0) && (k.wait.head? == some x.token)).getD false) := rfl
      obtain ⟨rx, hrxd⟩ : ∃ rx, readyX Ls x = rx := ⟨_, rfl⟩
      rw [hrxd] at hrx hnx
      obtain ⟨wt, hwt⟩ : ∃ wt, wtI Ls x = wt := ⟨_, rfl⟩
      rw [hwt] at GW hwc
      obtain ⟨aw, haw⟩ : ∃ aw, awX Ls x = aw := ⟨_, rfl⟩
      rw [haw] at hrx hwc
      obtain ⟨tk, ta, wo, un, du, go, xa, xc, xw⟩ := x
      simp only at p0 p1 p2 p3 p4 p5 hnx hrx hX hbx GW hxw
      change _ = some (Value.slice xa xw.length xc) at p6
      dsimp only [lev] at GW
      generalize xw.length = xn at *
      have HAL := Lib.hid hal
      generalize readyW (Xs.take k) Ls = D at *
      have HNX := Lib.hid hnx
      have HRX := Lib.hid hrx
      have HWC := Lib.hid hwc
      have HLA := Lib.hid (hla.below hbx)
      have HB6 := Lib.hid (HB.out.trans (hbx.mono HB.out.size))
      have HOX := Lib.hid (OwnR.kept HO.out hbx)
      have HXN := Lib.hid hxw
      clear hk hkx hlt hxi hx hnx hla hal hrx hwc hwt haw hrxd hxw
      go_upto_region 6 with fail
      generalize hw6 : wr.alloc (.cells #[.int .i64 tk, .int .i64 ta, .int .i64 wo, .int .i64 un, .int .i64 du, .int .i64 go, .slice xa xn xc] 35) = w6 at *
      replace hX : Blk w6 wr.heap.size [.int .i64 tk, .int .i64 ta, .int .i64 wo, .int .i64 un, .int .i64 du, .int .i64 go, .slice xa xn xc] := hX
      have HXB := Lib.hid hX
      have x0 := hX.cell 0 rfl
      have x1 := hX.cell 1 rfl
      have x2 := hX.cell 2 rfl
      have x3 := hX.cell 3 rfl
      have x4 := hX.cell 4 rfl
      have x5 := hX.cell 5 rfl
      have x6 := hX.cell 6 rfl
      clear hX hbx hw6 p0 p1 p2 p3 p4 p5 p6
      go_upto_region 7 with (go_at_call 27; (with_reducible refine GW.out.mono ?_); rintro e w7 ⟨rfl, b7⟩; have HB4 := Lib.hid b7; clear b7)
      clear x0 x1 x2 x3 x4 x5 x6
      have x0 := (HXB.out.kept HB4.out).cell 0 rfl
      have x5 := (HXB.out.kept HB4.out).cell 5 rfl
      have x6 := (HXB.out.kept HB4.out).cell 6 rfl
      generalize hbxx : wr.heap.size = bx at *
      clear hbxx
      go_cut [60] (fun c wx => c = .bool rx ∧ Below w6.heap.size w6 wx)
      case first =>
        by_cases hf : go = (xn : Int)
        · have hr : rx = true := by rw [HRX.out, decide_eq_true hf]; rfl
          subst hr
          subst hf
          have e1 : ((xn : Int) == (xn : Int)) = true := by simp
          refine wp_region_calm0 (by kernel_rfl) (by kernel_rfl) fun M => ?_
          have f0 := fun n : In M.w => n.cell (M.cell x0)
          have f1 := fun n : In M.w => n.cell (M.cell x5)
          have f2 := fun n : In M.w => n.cell (M.cell x6)
          repeat (go_big_quiet_step (fail))
          refine wpQuiet_nil ?_
          clear f0 f1 f2 M
          intro w5 hb5
          have HB5 := Lib.hid (HB4.out.trans (hb5.mono HB4.out.size))
          clear hb5 x0 x5 x6
          go_wp2
          go_meet
          exact ⟨rfl, HB5.out⟩
        · have e1 : (go == (xn : Int)) = false := beq_noI hf
          have hr := HRX.out
          rw [decide_eq_false hf, Bool.false_or] at hr
          rcases HWC.out with ⟨h1, h2⟩ | ⟨id, hid, h1, h2⟩
          · subst h1 h2
            simp only [Option.map_none, Option.getD_none] at hr
            subst hr
            refine wp_region_calm0 (by kernel_rfl) (by kernel_rfl) fun M => ?_
            have f0 := fun n : In M.w => n.cell (M.cell x0)
            have f1 := fun n : In M.w => n.cell (M.cell x5)
            have f2 := fun n : In M.w => n.cell (M.cell x6)
            repeat (go_big_quiet_step (fail))
            refine wpQuiet_nil ?_
            clear f0 f1 f2 M
            intro w5 hb5
            have HB5 := Lib.hid (HB4.out.trans (hb5.mono HB4.out.size))
            clear hb5 x0 x5 x6
            go_wp2
            go_meet
            exact ⟨rfl, HB5.out⟩
          · obtain ⟨kk, q, g2, o2, c2, e3, em, e5, e6, e7, q0, q1, q2, q3⟩ := lockSpot (HLA.out.below HB4.out) hid
            cases e7
            rw [h2, e3] at hr
            rw [e5] at h1
            subst h1
            simp only [Option.map_some, Option.getD_some] at hr
            have j0 : (0 : Int) ≤ (q : Int) := by omega
            have j1 : (q : Int) < (Ls.length : Int) := by omega
            have j2 : (q : Int) ≤ 1000 := by have := HLL.out; omega
            have hkw := HLW.out kk em
            obtain ⟨id', hh, ka, kc, kw⟩ := kk
            simp only at q1 q2 q3 hr hkw
            clear h2 e3 e5 e6 em hid q0
            by_cases hz : hh = 0
            · subst hz
              have ez : ((0 : Int) == 0) = true := rfl
              rw [ez, Bool.true_and] at hr
              cases kw with
              | nil =>
                have hr2 : rx = false := by rw [hr]; simp
                subst hr2
                have l0 : ¬ (0 : Int) < (([] : List Int).length : Int) := by simp
                simp only [List.length_nil] at q2
                clear hr q3
                refine wp_region_calm0 (by kernel_rfl) (by kernel_rfl) fun M => ?_
                have f0 := fun n : In M.w => n.cell (M.cell x0)
                have f1 := fun n : In M.w => n.cell (M.cell x5)
                have f2 := fun n : In M.w => n.cell (M.cell x6)
                have f3 := fun n : In M.w => n.cell (M.cell q1)
                have f4 := fun n : In M.w => n.cell (M.cell q2)
                repeat (go_big_quiet_step (fail))
                refine wpQuiet_nil ?_
                clear f0 f1 f2 f3 f4 M
                intro w5 hb5
                have HB5 := Lib.hid (HB4.out.trans (hb5.mono HB4.out.size))
                clear hb5 x0 x5 x6
                go_wp2
                go_meet
                exact ⟨rfl, HB5.out⟩
              | cons y rest =>
                obtain ⟨g4, o4, c4, e4, _, _, m0⟩ := q3.spot 0 (by simp)
                cases e4
                simp only [List.getElem_cons_zero, Nat.add_zero] at m0
                have hr2 : rx = (y == tk) := by rw [hr]; simp
                obtain ⟨kn, hkn⟩ : ∃ kn, (y :: rest).length = kn := ⟨_, rfl⟩
                rw [hkn] at q2 hkw
                have l1 : (0 : Int) < (kn : Int) := by rw [← hkn]; simp only [List.length_cons]; omega
                have l2 : (kn : Int) ≤ 1000 := by omega
                have l3 : 0 < kn := by omega
                clear hr q3 hkn
                by_cases hy : y = tk
                · have hr3 : rx = true := by rw [hr2, hy]; simp
                  subst hr3
                  rw [hy] at m0
                  have ey : (tk == tk) = true := by simp
                  clear hr2 hy
                  refine wp_region_calm0 (by kernel_rfl) (by kernel_rfl) fun M => ?_
                  have f0 := fun n : In M.w => n.cell (M.cell x0)
                  have f1 := fun n : In M.w => n.cell (M.cell x5)
                  have f2 := fun n : In M.w => n.cell (M.cell x6)
                  have f3 := fun n : In M.w => n.cell (M.cell q1)
                  have f4 := fun n : In M.w => n.cell (M.cell q2)
                  have f5 := fun n : In M.w => n.cell (M.cell m0)
                  repeat (go_big_quiet_step (fail))
                  refine wpQuiet_nil ?_
                  clear f0 f1 f2 f3 f4 f5 M
                  intro w5 hb5
                  have HB5 := Lib.hid (HB4.out.trans (hb5.mono HB4.out.size))
                  clear hb5 x0 x5 x6
                  go_wp2
                  go_meet
                  exact ⟨rfl, HB5.out⟩
                · have ey : (y == tk) = false := beq_noI hy
                  have hr3 : rx = false := hr2.trans ey
                  subst hr3
                  clear hr2
                  refine wp_region_calm0 (by kernel_rfl) (by kernel_rfl) fun M => ?_
                  have f0 := fun n : In M.w => n.cell (M.cell x0)
                  have f1 := fun n : In M.w => n.cell (M.cell x5)
                  have f2 := fun n : In M.w => n.cell (M.cell x6)
                  have f3 := fun n : In M.w => n.cell (M.cell q1)
                  have f4 := fun n : In M.w => n.cell (M.cell q2)
                  have f5 := fun n : In M.w => n.cell (M.cell m0)
                  repeat (go_big_quiet_step (fail))
                  refine wpQuiet_nil ?_
                  clear f0 f1 f2 f3 f4 f5 M
                  intro w5 hb5
                  have HB5 := Lib.hid (HB4.out.trans (hb5.mono HB4.out.size))
                  clear hb5 x0 x5 x6
                  go_wp2
                  go_meet
                  exact ⟨rfl, HB5.out⟩
            · have ez : (hh == 0) = false := beq_noI hz
              have hr2 : rx = false := by rw [hr, ez, Bool.false_and]
              subst hr2
              clear hr q3 q2
              refine wp_region_calm0 (by kernel_rfl) (by kernel_rfl) fun M => ?_
              have f0 := fun n : In M.w => n.cell (M.cell x0)
              have f1 := fun n : In M.w => n.cell (M.cell x5)
              have f2 := fun n : In M.w => n.cell (M.cell x6)
              have f3 := fun n : In M.w => n.cell (M.cell q1)
              repeat (go_big_quiet_step (fail))
              refine wpQuiet_nil ?_
              clear f0 f1 f2 f3 M
              intro w5 hb5
              have HB5 := Lib.hid (HB4.out.trans (hb5.mono HB4.out.size))
              clear hb5 x0 x5 x6
              go_wp2
              go_meet
              exact ⟨rfl, HB5.out⟩
      case rest =>
        obtain ⟨rfl, hbc⟩ := hcut
        have HBC := Lib.hid hbc
        have x0 := (HXB.out.kept hbc).cell 0 rfl
        have HB9 := Lib.hid (HB6.out.trans (hbc.mono HB6.out.size))
        have HO9 := Lib.hid (OwnR.kept HOX.out hbc)
        clear hbc
        cases rx with
        | false =>
          have HN2 := Lib.hid (HNX.out.trans (List.append_nil D))
          go_wp2
          go_roundg (Xs.length - (k + 1))
          case measure => have := HLT.out; omega
          case rel => exact ⟨k + 1, by have := HLT.out; omega, Nat.le_refl _, by go_num, by rw [HN2.out]; exact HO9.out, HB9.out⟩
        | true =>
          go_wp2_with (at_builtin; refine app1 HO9.out HB9.out.size (by have := HAL.out; omega) rfl _ _ rfl rfl rfl ?_; intro v6 w8 o6 b6; have HO10 := Lib.hid o6; have HB10 := Lib.hid (HB9.out.trans b6); clear o6 b6 x0)
          go_roundg (Xs.length - (k + 1))
          case measure => have := HLT.out; omega
          case rel => exact ⟨k + 1, by have := HLT.out; omega, Nat.le_refl _, by go_num, by rw [HNX.out]; exact HO10.out, HB10.out⟩
    · have k1 : ¬ (k : Int) < (Xs.length : Int) := by omega
      have ho := OwnI.ints HO.out
      have hke : Xs.take k = Xs := List.take_of_length_le (by omega)
      rw [hke] at ho ⊢
      have HO2 := Lib.hid ho
      clear hk hkx hlt ho HO hke
      go_wp2
      go_ret
      exact ⟨_, rfl, HO2.out, HB.out⟩
end Go.Proofs.Ytjmgokjljmmmgaa
/- Stage 21: the document's Few, Arrows. -/
namespace Go.Proofs.Ytjmgokjljmmmgaa
open Go.RowKit

set_option maxHeartbeats 4000000 in
set_option maxRecDepth 100000 in
theorem refArrows_any (va vb : Value) (A : List Arc16) (W : World) (ha : ArcsAt W va A) (hb : ArcsAt W vb A) (hl : A.length ≤ 1000) :
    Calls Try.prog 10 #[va, vb] W fun e w' => e = .returned (.bool true) ∧ Below W.heap.size W w' := by
  have HA := Lib.hid ha
  have HB := Lib.hid hb
  have HL := Lib.hid hl
  obtain ⟨a, c, rfl⟩ := RowsAt.form ha
  obtain ⟨b, d, rfl⟩ := RowsAt.form hb
  have hB := Below.refl W.heap.size W
  clear ha hb hl
  go_enter Try.func10, Try.ntmps10
  go_wp2
  go_loopg [5] A.length (fun kx iv ws => ∃ i : Nat, i ≤ A.length ∧ A.length - i ≤ kx ∧ iv = .int .i64 i ∧ Below W.heap.size W ws)
  case atStart => exact ⟨0, Nat.zero_le _, Nat.le_refl _, rfl, hB⟩
  case round =>
    clear hB
    obtain ⟨i, hi, hix, rfl, hbr⟩ := hrel
    have HBR := Lib.hid hbr
    by_cases hit : i < A.length
    · have HIT := Lib.hid (And.intro hit hix)
      have i0 : (0 : Int) ≤ (i : Int) := by omega
      have i1 : (i : Int) < (A.length : Int) := by omega
      have i2 : (i : Int) ≤ 1000 := by have := HL.out; omega
      obtain ⟨g, o, cc, e, _, _, hx⟩ := (RowsAt.kept HA.out hbr).spot i hit
      obtain ⟨g', o', cc', e', _, _, hy⟩ := (RowsAt.kept HB.out hbr).spot i hit
      cases e
      cases e'
      have p0 := hx 0 (.int .i64 (A[i]'hit).src) rfl
      have p1 := hx 1 (.int .i64 (A[i]'hit).dst) rfl
      have q0 := hy 0 (.int .i64 (A[i]'hit).src) rfl
      have q1 := hy 1 (.int .i64 (A[i]'hit).dst) rfl
      simp only [Nat.add_zero] at p0 q0
      obtain ⟨⟨s, d⟩, hsd⟩ : ∃ x, A[i]'hit = x := ⟨_, rfl⟩
      rw [hsd] at p0 p1 q0 q1
      simp only at p0 p1 q0 q1
      clear hi hix hit hx hy hsd hbr
      go_upto_region 6 with fail
      refine wp_region_calm0 (by kernel_rfl) (by kernel_rfl) fun M => ?_
      have f0 := fun n : In M.w => n.cell (M.cell p0)
      have f1 := fun n : In M.w => n.cell (M.cell p1)
      have f2 := fun n : In M.w => n.cell (M.cell q0)
      have f3 := fun n : In M.w => n.cell (M.cell q1)
      repeat (go_big_quiet_step (fail))
      refine wpQuiet_nil ?_
      clear f0 f1 f2 f3 M p0 p1 q0 q1
      intro w5 hb5
      have HB5 := Lib.hid (HBR.out.trans (hb5.mono HBR.out.size))
      clear hb5
      go_wp2
      go_roundg (A.length - (i + 1))
      case measure => have := HIT.out; omega
      case rel => exact ⟨i + 1, by have := HIT.out; omega, Nat.le_refl _, by go_num, HB5.out⟩
    · have i1 : ¬ (i : Int) < (A.length : Int) := by omega
      clear hi hix hit hbr
      go_wp2
      go_ret
      exact ⟨rfl, HBR.out⟩
theorem fewW_iff (Xs : List Le) (Ls : List Lr) : fewW Xs Ls = true ↔ (Xs.length ≤ 30 ∧ Ls.length ≤ 40) ∧ (∀ x ∈ Xs, x.want.length ≤ 40) ∧ ∀ x ∈ Ls, x.wait.length ≤ 40 := by
  unfold fewW
  simp only [Bool.and_eq_true, decide_eq_true_eq, List.all_eq_true]
set_option maxHeartbeats 4000000 in
set_option maxRecDepth 100000 in
theorem refFewW_any (vx vl : Value) (Xs : List Le) (Ls : List Lr) (W : World) (hx : RowsAt W 7 csLe vx Xs) (hl : RowsAt W 3 csL vl Ls) :
    Calls Try.prog 4 #[vx, vl] W fun e w' => e = .returned (.bool (fewW Xs Ls)) ∧ W = w' := by
  obtain ⟨r, hr⟩ : ∃ r, fewW Xs Ls = r := ⟨_, rfl⟩
  rw [hr]
  have HNO := Lib.hid (show (¬ ((Xs.length ≤ 30 ∧ Ls.length ≤ 40) ∧ (∀ x ∈ Xs, x.want.length ≤ 40) ∧ ∀ x ∈ Ls, x.wait.length ≤ 40)) → false = r from fun h => by
    rw [← hr]
    exact (Bool.eq_false_iff.2 fun h2 => h ((fewW_iff Xs Ls).1 h2)).symm)
  have HYES := Lib.hid (show ((Xs.length ≤ 30 ∧ Ls.length ≤ 40) ∧ (∀ x ∈ Xs, x.want.length ≤ 40) ∧ ∀ x ∈ Ls, x.wait.length ≤ 40) → true = r from fun h => by
    rw [← hr]
    exact ((fewW_iff Xs Ls).2 h).symm)
  have HX := Lib.hid hx
  have HL := Lib.hid hl
  obtain ⟨ax, cx, rfl⟩ := RowsAt.form hx
  obtain ⟨al, cl, rfl⟩ := RowsAt.form hl
  clear hx hl hr
  by_cases h30 : Xs.length ≤ 30
  · have g1 : ¬ (30 : Int) < (Xs.length : Int) := by omega
    by_cases h40 : Ls.length ≤ 40
    · have g2 : ¬ (40 : Int) < (Ls.length : Int) := by omega
      have H30 := Lib.hid h30
      have H40 := Lib.hid h40
      clear h30 h40
      go_enter Try.func4, Try.ntmps4
      go_wp2
      go_loopg [5] Xs.length (fun kx iv ws => ∃ i : Nat, i ≤ Xs.length ∧ Xs.length - i ≤ kx ∧ iv = .int .i64 i ∧ Hid (∀ x ∈ Xs.take i, x.want.length ≤ 40) ∧ ws = W)
      case atStart => exact ⟨0, Nat.zero_le _, Nat.le_refl _, rfl, (fun x hx => (by simp at hx)), rfl⟩
      case round =>
        obtain ⟨i, hi, hix, rfl, HW, rfl⟩ := hrel
        by_cases hit : i < Xs.length
        · have HIT := Lib.hid (And.intro hit hix)
          have i0 : (0 : Int) ≤ (i : Int) := by omega
          have i1 : (i : Int) < (Xs.length : Int) := by omega
          have i2 : (i : Int) ≤ 30 := by have := H30.out; omega
          obtain ⟨g, o, cc, e, z0, z1, p0, p1, p2, p3, p4, p5, p6⟩ := leaseAt HX.out i hit
          cases e
          have hm := List.getElem_mem hit
          have hsn : Xs.take (i + 1) = Xs.take i ++ [Xs[i]'hit] := List.take_succ_eq_append_getElem hit
          clear p0 p1 p2 p3 p4 p5 z0 z1
          obtain ⟨x, hx⟩ : ∃ x, Xs[i]'hit = x := ⟨_, rfl⟩
          rw [hx] at p6 hm hsn
          by_cases hw : x.want.length ≤ 40
          · have q1 : ¬ (40 : Int) < (x.want.length : Int) := by omega
            have HW2 := Lib.hid (show ∀ x ∈ Xs.take (i + 1), x.want.length ≤ 40 from fun y hy => by
              rw [hsn] at hy
              rcases List.mem_append.1 hy with hy | hy
              · exact HW.out y hy
              · rw [List.mem_singleton.1 hy]; exact hw)
            clear hi hix hit hx hm hsn hw
            go_wp2
            go_roundg (Xs.length - (i + 1))
            case measure => have := HIT.out; omega
            case rel => exact ⟨i + 1, by have := HIT.out; omega, Nat.le_refl _, by go_num, HW2.out, rfl⟩
          · have q1 : (40 : Int) < (x.want.length : Int) := by omega
            have HF := Lib.hid (HNO.out fun h => hw (h.2.1 x hm))
            clear hi hix hit hx hm hsn hw
            go_wp2
            go_ret
            exact ⟨ret_b HF.out, rfl⟩
        · have i1 : ¬ (i : Int) < (Xs.length : Int) := by omega
          have HXW := Lib.hid (show ∀ x ∈ Xs, x.want.length ≤ 40 from fun x hx => HW.out x (by rw [List.take_of_length_le (by omega)]; exact hx))
          clear hi hix hit HW
          go_wp2
          go_loopg [6] Ls.length (fun kx iv ws => ∃ i : Nat, i ≤ Ls.length ∧ Ls.length - i ≤ kx ∧ iv = .int .i64 i ∧ Hid (∀ x ∈ Ls.take i, x.wait.length ≤ 40) ∧ ws = wr)
          case atStart => exact ⟨0, Nat.zero_le _, Nat.le_refl _, rfl, (fun x hx => (by simp at hx)), rfl⟩
          case round =>
            obtain ⟨i, hi, hix, rfl, HW, rfl⟩ := hrel
            by_cases hit : i < Ls.length
            · have HIT := Lib.hid (And.intro hit hix)
              have i0 : (0 : Int) ≤ (i : Int) := by omega
              have i1 : (i : Int) < (Ls.length : Int) := by omega
              have i2 : (i : Int) ≤ 40 := by have := H40.out; omega
              obtain ⟨g, o, cc, e, z0, z1, p0, p1, p2⟩ := RowsAt.atL HL.out i hit
              cases e
              have hm := List.getElem_mem hit
              have hsn : Ls.take (i + 1) = Ls.take i ++ [Ls[i]'hit] := List.take_succ_eq_append_getElem hit
              clear p0 p1 z0 z1
              obtain ⟨x, hx⟩ : ∃ x, Ls[i]'hit = x := ⟨_, rfl⟩
              rw [hx] at p2 hm hsn
              by_cases hw : x.wait.length ≤ 40
              · have q1 : ¬ (40 : Int) < (x.wait.length : Int) := by omega
                have HW2 := Lib.hid (show ∀ x ∈ Ls.take (i + 1), x.wait.length ≤ 40 from fun y hy => by
                  rw [hsn] at hy
                  rcases List.mem_append.1 hy with hy | hy
                  · exact HW.out y hy
                  · rw [List.mem_singleton.1 hy]; exact hw)
                clear hi hix hit hx hm hsn hw
                go_wp2
                go_roundg (Ls.length - (i + 1))
                case measure => have := HIT.out; omega
                case rel => exact ⟨i + 1, by have := HIT.out; omega, Nat.le_refl _, by go_num, HW2.out, rfl⟩
              · have q1 : (40 : Int) < (x.wait.length : Int) := by omega
                have HF := Lib.hid (HNO.out fun h => hw (h.2.2 x hm))
                clear hi hix hit hx hm hsn hw
                go_wp2
                go_ret
                exact ⟨ret_b HF.out, rfl⟩
            · have i1 : ¬ (i : Int) < (Ls.length : Int) := by omega
              have HF := Lib.hid (HYES.out ⟨⟨H30.out, H40.out⟩, HXW.out, fun x hx => HW.out x (by rw [List.take_of_length_le (by omega)]; exact hx)⟩)
              clear hi hix hit HW
              go_wp2
              go_ret
              exact ⟨ret_b HF.out, rfl⟩
    · have g2 : (40 : Int) < (Ls.length : Int) := by omega
      have HF := Lib.hid (HNO.out fun h => h40 h.1.2)
      clear h30 h40
      go_enter Try.func4, Try.ntmps4
      go_wp2
      go_ret
      exact ⟨ret_b HF.out, rfl⟩
  · have g1 : (30 : Int) < (Xs.length : Int) := by omega
    have HF := Lib.hid (HNO.out fun h => h30 h.1.1)
    clear h30
    go_enter Try.func4, Try.ntmps4
    go_wp2
    go_ret
    exact ⟨ret_b HF.out, rfl⟩
end Go.Proofs.Ytjmgokjljmmmgaa
/- A list of numbers that the call has gathered, sorted and without repetitions: what the library's contracts give. -/
namespace Go.Proofs.Ytjmgokjljmmmgaa
open Go.RowKit Go.Sort

/-! ### Lists that rise -/
theorem rise_ext : ∀ {l r : List Int}, l.Pairwise (· < ·) → r.Pairwise (· < ·) → (∀ m, m ∈ l ↔ m ∈ r) → l = r
  | [], [], _, _, _ => rfl
  | [], y :: r, _, _, h => absurd ((h y).2 (by simp)) (by simp)
  | x :: l, [], _, _, h => absurd ((h x).1 (by simp)) (by simp)
  | x :: l, y :: r, hl, hr, h => by
    rw [List.pairwise_cons] at hl hr
    have e : x = y := by
      have h1 := (h x).1 (by simp)
      have h2 := (h y).2 (by simp)
      rw [List.mem_cons] at h1 h2
      rcases h1 with h1 | h1
      · exact h1
      · rcases h2 with h2 | h2
        · exact h2.symm
        · have := hl.1 _ h2
          have := hr.1 _ h1
          omega
    subst e
    have : l = r := rise_ext hl.2 hr.2 fun m => by
      have := h m
      rw [List.mem_cons, List.mem_cons] at this
      constructor
      · intro hm
        have h3 := hl.1 _ hm
        rcases this.1 (.inr hm) with rfl | h4
        · omega
        · exact h4
      · intro hm
        have h3 := hr.1 _ hm
        rcases this.2 (.inr hm) with rfl | h4
        · omega
        · exact h4
    rw [this]

theorem sorted_ms (zs : List Int) : (zs.mergeSort fun x y => decide (x ≤ y)).Pairwise (· ≤ ·) := by
  have := List.pairwise_mergeSort (le := fun x y : Int => decide (x ≤ y)) (fun a b c h1 h2 => by simp at *; omega) (fun a b => by simp; omega) zs
  exact this.imp fun h => by simpa using h

theorem compact_rise {zs : List Int} (h : zs.Pairwise (· ≤ ·)) : (Lib.compact zs).Pairwise (· < ·) := by
  unfold Lib.compact Lib.compactUpTo
  rw [List.pairwise_map]
  have h1 : (List.range zs.length).Pairwise (· < ·) := List.pairwise_lt_range
  have h2 := h1.filter (Lib.keeps zs.toArray)
  refine List.Pairwise.imp_of_mem (fun {i j} hi hj hij => ?_) h2
  have hjm := List.mem_filter.1 hj
  have hjl : j < zs.length := List.mem_range.1 hjm.1
  have hk := hjm.2
  unfold Lib.keeps at hk
  rw [decide_eq_true_eq] at hk
  rcases hk with hk | hk
  · omega
  · have g : ∀ a b, a ≤ b → b < zs.length → zs.toArray[a]! ≤ zs.toArray[b]! := by
      intro a b hab hb
      rcases Nat.lt_or_ge a b with hlt | hge
      · have := List.pairwise_iff_getElem.1 h a b (by omega) hb hlt
        simpa [getElem!_pos, show a < zs.length by omega, hb] using this
      · have : a = b := by omega
        subst this
        exact Int.le_refl _
    have h3 := g i (j - 1) (by omega) (by omega)
    have h4 := g (j - 1) j (by omega) hjl
    omega

theorem compact_mem (zs : List Int) (m : Int) : m ∈ Lib.compact zs ↔ m ∈ zs := by
  unfold Lib.compact Lib.compactUpTo
  rw [List.mem_map]
  constructor
  · rintro ⟨i, hi, rfl⟩
    have := List.mem_range.1 (List.mem_filter.1 hi).1
    simp [getElem!_pos, this]
  · intro hm
    obtain ⟨i, hi, rfl⟩ := List.getElem_of_mem hm
    have key : ∀ n, ∀ i (hi : i < zs.length), i < n → ∃ a, a ∈ (List.range zs.length).filter (Lib.keeps zs.toArray) ∧ zs.toArray[a]! = zs[i] := by
      intro n
      induction n with
      | zero => intro i hi h; omega
      | succ n ih =>
        intro i hi h
        by_cases hk : Lib.keeps zs.toArray i = true
        · exact ⟨i, List.mem_filter.2 ⟨List.mem_range.2 hi, hk⟩, by simp [getElem!_pos, hi]⟩
        · unfold Lib.keeps at hk
          rw [decide_eq_true_eq] at hk
          have h0 : i ≠ 0 := fun e => hk (.inl e)
          have h1 : zs.toArray[i]! = zs.toArray[i - 1]! := by
            by_cases e : zs.toArray[i]! = zs.toArray[i - 1]!
            · exact e
            · exact absurd (.inr e) hk
          obtain ⟨a, ha, he⟩ := ih (i - 1) (by omega) (by omega)
          refine ⟨a, ha, ?_⟩
          rw [he]
          simp [getElem!_pos, hi, show i - 1 < zs.length by omega] at h1
          exact h1.symm
    exact key (i + 1) i hi (by omega)

/-! ### In memory -/
theorem below_row {B blk off n : Nat} {a w : World} {d : Array Int} {os : Array Obj} (h : Below B a w) (hb : B ≤ blk) (hz : B ≤ w.heap.size) : Below B a (grow (putRow (Value.int .i64) (Sort.ahead w n) blk off d) os) := by
  refine h.trans ⟨rfl, rfl, rfl, by simp, fun k hk => ?_⟩
  rw [heap_grow_old _ _ (by simp; omega)]
  have : blk ≠ k := by omega
  simp [putRow, mapBlock, Sort.ahead, Array.getElem?_modify, this]
theorem below_row' {B blk off n : Nat} {a w : World} {d : Array Int} (h : Below B a w) (hb : B ≤ blk) (hz : B ≤ w.heap.size) : Below B a (putRow (Value.int .i64) (Sort.ahead w n) blk off d) := by
  have := below_row (n := n) (off := off) (d := d) (os := #[]) h hb hz
  rwa [grow_empty] at this
theorem ints_of_holds {w : World} {blk cap : Nat} {zs : List Int} {d : Array Int} (hH : Holds (Value.int .i64) w blk 0 d) (hb : blk < w.heap.size) (hd : ∀ j x, zs[j]? = some x → j < d.size ∧ d[j]! = x) (hc : zs.length ≤ cap) : IntsAt w (.slice (some ⟨blk, 0, none⟩) zs.length cap) zs := by
  refine ⟨_, cap, rfl, hc, fun _ => ⟨blk, 0, rfl, hb, fun j x hj => ?_⟩⟩
  obtain ⟨h1, h2⟩ := hd j x hj
  have := (hH j h1).1
  rw [h2] at this
  exact this
/-- a list that the call has gathered, of at least one -/
theorem OwnI.holds {w : World} {B : Nat} {v : Value} {l : List Int} (h : OwnI w B v l) (h0 : 0 < l.length) :
    ∃ g cap, v = .slice (some ⟨g, 0, none⟩) l.length cap ∧ B ≤ g ∧ g < w.heap.size ∧ l.length ≤ cap ∧ Holds (Value.int .i64) w g 0 l.toArray := by
  rcases h.2 with ⟨rfl, he⟩ | ⟨g, cap, cur, rfl, hg, hh, hnc, hcp, hcs, htake⟩
  · omega
  · refine ⟨g, cap, rfl, hg, (Array.getElem?_eq_some_iff.1 hh).1, hnc, fun j hj => ?_⟩
    have hj' : j < l.length := by simpa using hj
    refine ⟨?_, by simp [World.frozen?, hh]⟩
    have h1 := flats_at csI_len l j l[j] (List.getElem?_eq_getElem hj') 0 (.int .i64 l[j]) rfl
    rw [Nat.mul_one, Nat.add_zero, ← htake, List.getElem?_take_of_lt (by omega)] at h1
    simp only [World.cell?, hh, Nat.zero_add]
    simp [hj'] at h1 ⊢
    exact h1

/-- behind the sort and Compact -/
theorem ints_compact {w : World} {g cap n q : Nat} {os : Array Obj} {l : List Int} (hH : Holds (Value.int .i64) w g 0 l.toArray) (hg : g < w.heap.size) (hc : l.length ≤ cap) :
    IntsAt (putRow (Value.int .i64) (Sort.ahead (grow (putRow (Value.int .i64) (Sort.ahead w n) g 0 (l.mergeSort fun x y => decide (x ≤ y)).toArray) os) q) g 0 (Lib.compact (l.mergeSort fun x y => decide (x ≤ y)) ++ List.replicate ((l.mergeSort fun x y => decide (x ≤ y)).length - (Lib.compact (l.mergeSort fun x y => decide (x ≤ y))).length) 0).toArray)
      (.slice (some ⟨g, 0, none⟩) (Lib.compact (l.mergeSort fun x y => decide (x ≤ y))).length cap) (Lib.compact (l.mergeSort fun x y => decide (x ≤ y))) := by
  have hlen : (l.mergeSort fun x y => decide (x ≤ y)).length = l.length := List.length_mergeSort l
  generalize (l.mergeSort fun x y => decide (x ≤ y)) = s at *
  have hcl := Lib.compact_length_le s
  have H1 : Holds (Value.int .i64) (grow (putRow (Value.int .i64) (Sort.ahead w n) g 0 s.toArray) os) g 0 s.toArray :=
    holds_grow _ _ _ _ _ _ (by simpa using hg) (holds_putRow _ _ _ _ l.toArray _ (holds_ahead _ _ _ _ _ _ hH) (by simpa using hlen))
  have H2 := holds_putRow (Value.int .i64) (Sort.ahead (grow (putRow (Value.int .i64) (Sort.ahead w n) g 0 s.toArray) os) q) g 0 s.toArray (Lib.compact s ++ List.replicate (s.length - (Lib.compact s).length) 0).toArray (holds_ahead _ _ _ _ _ _ H1) (by simp; omega)
  refine ints_of_holds H2 (by simp; omega) (fun j x hj => ?_) (by omega)
  have hjl := (List.getElem?_eq_some_iff.1 hj).1
  refine ⟨by simp; omega, ?_⟩
  rw [getElem!_pos _ _ (by simp; omega)]
  rw [List.getElem?_eq_getElem hjl] at hj
  simp [List.getElem_append_left hjl]
  exact Option.some.inj hj
theorem holds_sorted {w : World} {g n : Nat} {os : Array Obj} {l : List Int} (hH : Holds (Value.int .i64) w g 0 l.toArray) (hg : g < w.heap.size) :
    Holds (Value.int .i64) (grow (putRow (Value.int .i64) (Sort.ahead w n) g 0 (l.mergeSort fun x y => decide (x ≤ y)).toArray) os) g 0 (l.mergeSort fun x y => decide (x ≤ y)).toArray :=
  holds_grow _ _ _ _ _ _ (by simpa using hg) (holds_putRow _ _ _ _ l.toArray _ (holds_ahead _ _ _ _ _ _ hH) (by simp))
end Go.Proofs.Ytjmgokjljmmmgaa
/- Stage 17's program: plain mathematics of what is asked and told, one number behind the other. -/
namespace Go.Proofs.Ytjmgokjljmmmgaa

/-- one number behind the other is asked, till it is so of one -/
def runS {σ : Type} (f : σ → Int → σ × Bool) : σ → List Int → σ × Bool
  | s, [] => (s, false)
  | s, x :: l => if (f s x).2 then ((f s x).1, true) else runS f (f s x).1 l
theorem runS_cons {σ : Type} (f : σ → Int → σ × Bool) (s : σ) (x : Int) (l : List Int) : runS f s (x :: l) = if (f s x).2 then ((f s x).1, true) else runS f (f s x).1 l := rfl
theorem runS_no {σ : Type} (f : σ → Int → σ × Bool) (s : σ) (l : List Int) (k : Nat) (h : k < l.length) (hf : (f s l[k]).2 = false) : runS f s (l.drop k) = runS f (f s l[k]).1 (l.drop (k + 1)) := by
  rw [List.drop_eq_getElem_cons h, runS_cons, hf]
  simp
theorem runS_yes {σ : Type} (f : σ → Int → σ × Bool) (s : σ) (l : List Int) (k : Nat) (h : k < l.length) (hf : (f s l[k]).2 = true) : runS f s (l.drop k) = ((f s l[k]).1, true) := by
  rw [List.drop_eq_getElem_cons h, runS_cons, hf]
  simp
theorem runS_end {σ : Type} (f : σ → Int → σ × Bool) (s : σ) (l : List Int) : runS f s (l.drop l.length) = (s, false) := by
  rw [List.drop_length]
  rfl
theorem runS_each {σ : Type} (g : σ → Int → σ) : ∀ (l : List Int) (s : σ), runS (fun s x => (g s x, false)) s l = (l.foldl g s, false)
  | [], _ => rfl
  | x :: l, s => by
    have := runS_each g l (g s x)
    rw [runS_cons]
    simpa using this
theorem runS_any (p : Int → Bool) : ∀ (l : List Int), (runS (fun (_ : Unit) x => ((), p x)) () l).2 = l.any p
  | [] => rfl
  | x :: l => by
    have := runS_any p l
    rw [runS_cons]
    cases h : p x <;> simp_all
theorem any_in (l : List Int) (n : Int) : l.any (fun m => m == n) = inL l n := by
  unfold inL
  rw [Bool.eq_iff_iff, List.any_eq_true, decide_eq_true_iff]
  constructor
  · rintro ⟨x, h1, h2⟩
    have := eq_of_beq h2
    rwa [← this]
  · intro h
    exact ⟨n, h, by simp⟩
theorem any_not (a b : List Int) : (!a.any fun x => !inL b x) = withinB a b := by
  rw [Bool.eq_iff_iff, within_iff, List.not_any_eq_all_not, List.all_eq_true]
  constructor
  · intro h x hx
    have := h x hx
    rw [Bool.not_not] at this
    exact inL_iff.1 this
  · intro h x hx
    rw [Bool.not_not]
    exact inL_iff.2 (h x hx)
/-- does it not rise -/
def rgt (a n : Int) : Int × Bool := (n, !decide (a < n))
theorem ris_two {a x : Int} {l : List Int} : risL (a :: x :: l) ↔ a < x ∧ risL (x :: l) := by
  unfold risL
  rw [List.pairwise_cons]
  constructor
  · rintro ⟨h1, h2⟩
    exact ⟨h1 x (by simp), h2⟩
  · rintro ⟨h1, h2⟩
    refine ⟨fun y hy => ?_, h2⟩
    rcases List.mem_cons.1 hy with rfl | hy
    · exact h1
    · have := (List.pairwise_cons.1 h2).1 y hy
      omega
theorem runS_right : ∀ (l : List Int) (a : Int), (runS rgt a l).2 = !rightB (a :: l)
  | [], a => by
    have : risL [a] := List.pairwise_singleton _ _
    simp [runS, rightB, this]
  | x :: l, a => by
    have ih := runS_right l x
    rw [runS_cons]
    show (if (!decide (a < x)) = true then (x, true) else runS rgt x l).2 = _
    by_cases h : a < x
    · have e : rightB (a :: x :: l) = rightB (x :: l) := by
        unfold rightB
        exact decide_eq_decide.2 (ris_two.trans (and_iff_right h))
      rw [e, ← ih]
      simp [h]
    · have e : rightB (a :: x :: l) = false := by
        unfold rightB
        exact decide_eq_false fun hr => h (ris_two.1 hr).1
      rw [e]
      simp [h]
/-- the least above n of those that were told -/
def abS (n : Int) (s : Int × Bool) (m : Int) : Int × Bool := if n < m ∧ (s.2 = false ∨ m < s.1) then (m, true) else s
def AbI (n : Int) (p : List Int) (s : Int × Bool) : Prop := (s = (0, false) ∧ ∀ x ∈ p, x ≤ n) ∨ (s.2 = true ∧ s.1 ∈ p ∧ n < s.1 ∧ ∀ x ∈ p, n < x → s.1 ≤ x)
theorem AbI.step {n : Int} {p : List Int} {s : Int × Bool} (h : AbI n p s) (m : Int) : AbI n (p ++ [m]) (abS n s m) := by
  unfold abS
  obtain ⟨a, b⟩ := s
  by_cases hc : n < m ∧ (b = false ∨ m < a)
  · rw [if_pos hc]
    refine .inr ⟨rfl, by simp, hc.1, fun x hx hn => ?_⟩
    rcases List.mem_append.1 hx with hx | hx
    · rcases h with ⟨e, h⟩ | ⟨e, h1, h2, h3⟩
      · have := h x hx; omega
      · have h4 := h3 x hx hn
        have h5 : m < a := hc.2.resolve_left fun e2 => by simp only at e; rw [e2] at e; cases e
        simp only at h4 ⊢
        omega
    · rw [List.mem_singleton.1 hx]
      exact Int.le_refl _
  · rw [if_neg hc]
    rcases h with ⟨e, h⟩ | ⟨e, h1, h2, h3⟩
    · refine .inl ⟨e, fun x hx => ?_⟩
      rcases List.mem_append.1 hx with hx | hx
      · exact h x hx
      · rw [List.mem_singleton.1 hx]
        cases e
        exact Int.not_lt.1 fun h => hc ⟨h, .inl rfl⟩
    · refine .inr ⟨e, List.mem_append_left _ h1, h2, fun x hx hn => ?_⟩
      rcases List.mem_append.1 hx with hx | hx
      · exact h3 x hx hn
      · rw [List.mem_singleton.1 hx] at hn ⊢
        exact Int.not_lt.1 fun h => hc ⟨hn, .inr h⟩
theorem AbI.fold {n : Int} : ∀ (l p : List Int) (s : Int × Bool), AbI n p s → AbI n (p ++ l) (l.foldl (abS n) s)
  | [], p, s, h => by simpa using h
  | x :: l, p, s, h => by
    have := AbI.fold l (p ++ [x]) _ (h.step x)
    rw [List.append_assoc] at this
    exact this
theorem AbI.is {n : Int} {l : List Int} {s : Int × Bool} (h : AbI n l s) : s = abvL l n := by
  unfold abvL
  rcases h with ⟨e, h⟩ | ⟨e, h1, h2, h3⟩
  · have hf : (setL l).find? (fun x => decide (n < x)) = none := by
      rw [List.find?_eq_none]
      intro x hx
      have := h x ((setL_mem l x).1 hx)
      simp; omega
    rw [hf, e]
  · obtain ⟨a, b⟩ := s
    simp only at e h1 h2 h3
    subst e
    obtain ⟨k, hk, e⟩ := List.getElem_of_mem ((setL_mem l a).2 h1)
    have hr := setL_ris l
    have hf := ris_find (n := n) hr hk (by omega) fun i hi => by
      have h4 := List.pairwise_iff_getElem.1 hr i k (by omega) hk hi
      have h5 := h3 _ ((setL_mem l _).1 (List.getElem_mem (show i < (setL l).length by omega)))
      omega
    rw [hf, e]
theorem abv_fold (l : List Int) (n : Int) : l.foldl (abS n) (0, false) = abvL l n := (AbI.fold l [] (0, false) (.inl ⟨rfl, fun _ h => by cases h⟩)).is
/-- those that are wanted -/
def pkS (p : Int → Bool) (t : List Int) (x : Int) : List Int := if p x then t ++ [x] else t
theorem pk_fold (p : Int → Bool) : ∀ (l t : List Int), l.foldl (pkS p) t = t ++ l.filter p
  | [], t => by simp
  | x :: l, t => by
    have := pk_fold p l (pkS p t x)
    rw [List.foldl_cons, this]
    unfold pkS
    cases h : p x <;> simp [h]
theorem pick_pos (a b : List Int) : (setL a).filter (inL b) = andL a b := by
  unfold andL pickL
  congr 1
  funext x
  cases inL b x <;> rfl
theorem pick_neg (a b : List Int) : ((setL a).filter fun x => !inL b x) = lessL a b := by
  unfold lessL pickL
  congr 1
  funext x
  cases inL b x <;> rfl
theorem inL_set (b : List Int) (x : Int) : inL (setL b) x = inL b x := by
  unfold inL
  exact decide_eq_decide.2 (setL_mem b x)
theorem or_cat (a b : List Int) : setL ([a, b].flatten) = orL a b := by
  unfold orL
  simp
theorem set_sort (l : List Int) : Lib.compact (l.mergeSort fun x y => decide (x ≤ y)) = setL l := by
  refine rise_ext (compact_rise (sorted_ms l)) (setL_ris l) fun m => ?_
  rw [compact_mem, List.mem_mergeSort, setL_mem]
end Go.Proofs.Ytjmgokjljmmmgaa
/- Stage 17's program: some: a function that is handed on is asked one number of a list behind the other. -/
namespace Go.Proofs.Ytjmgokjljmmmgaa
open Go.RowKit

/-- what a handed function keeps: s, in the blocks F -/
structure KeepJ {σ : Type} (J : σ → (Nat → Prop) → World → Prop) : Prop where
  lt : ∀ {s F w}, J s F w → ∀ k, F k → k < w.heap.size
  out : ∀ {s F w w'}, J s F w → w.heap.size ≤ w'.heap.size → (∀ k, F k → w'.heap[k]? = w.heap[k]?) → J s F w'
theorem KeepJ.kept {σ : Type} {J : σ → (Nat → Prop) → World → Prop} (T : KeepJ J) {s : σ} {F : Nat → Prop} {w w' : World} (h : J s F w) (hb : Below w.heap.size w w') : J s F w' := T.out h hb.size fun k hk => hb.block k (T.lt h k hk)

set_option maxHeartbeats 1000000 in
theorem iSome_any {σ : Type} {J : σ → (Nat → Prop) → World → Prop} (f : σ → Int → σ × Bool) (g : FuncId) (q : Value) (eg : ∀ args w, (callFunc g args).run Try.prog w = .ok (.enter g args) w)
    (va : Value) (l : List Int) (w : World) (hl : IntsAt w va l) (hlen : l.length ≤ 1000000) (s0 : σ) (F0 : Nat → Prop) (hF : OffV F0 va l.length) (hJ : J s0 F0 w) (R : Nat → σ → Prop) (hR0 : R 0 s0) (hRs : ∀ k s x, R k s → R (k + 1) (f s x).1)
    (hT : ∀ s F w' x k, x ∈ l → k < l.length → R k s → J s F w' → Only F0 w w' → Calls Try.prog g #[.int .i64 x, q] w' fun e w'' => e = .returned (.bool (f s x).2) ∧ ∃ F', J (f s x).1 F' w'' ∧ Mv F F' w' w'') :
    Calls Try.prog 50 #[va, .func (.func g) #[] #[q]] w fun e w' => e = .returned (.bool (runS f s0 l).2) ∧ ∃ F', J (runS f s0 l).1 F' w' ∧ Mv F0 F' w w' := by
  obtain ⟨r, hr⟩ : ∃ r, runS f s0 l = r := ⟨_, rfl⟩
  rw [hr]
  have HR := Lib.hid hr
  have HT := Lib.hid hT
  have HRS := Lib.hid hRs
  have HR0 := Lib.hid hR0
  have HJ := Lib.hid hJ
  have HF := Lib.hid hF
  have HL := Lib.hid hl
  have HLE := Lib.hid hlen
  obtain ⟨a, c, rfl⟩ := hl.form
  clear hr hT hJ hF hl hRs hR0
  go_enter Try.func50, Try.ntmps50
  go_wp2
  refine wp_scope_goto 0 (fun n a' w' => ∃ (j : Nat) (z : Int) (s : σ) (F : Nat → Prop), n = l.length - j ∧ z = j ∧ j ≤ l.length ∧ runS f s (l.drop j) = r ∧ R j s ∧ J s F w' ∧ Mv F0 F w w' ∧ ∃ u2 u3 u6 u7 u8 u9 u10 u11 u12 u13 u14 u15 u16 u17, a' = { tmps := #[.slice a l.length c, .func (.func g) #[] #[q], u2, u3, .bool false, .int .i64 z, u6, u7, u8, u9, u10, u11, u12, u13, u14, u15, u16, u17], defers := [] }) rfl rfl ?_ ?_
  · rintro n a' w' ⟨j, _, s, F, rfl, rfl, hj, hrun, hrk, hj2, hmv, u2, u3, u6, u7, u8, u9, u10, u11, u12, u13, u14, u15, u16, u17, rfl⟩ K hK
    have HK := Lib.hid hK
    have HJ2 := Lib.hid hj2
    have HM := Lib.hid hmv
    have HRU := Lib.hid hrun
    have HRK := Lib.hid hrk
    clear hK hj2 hmv hrun hrk
    by_cases hlt : j < l.length
    · have hrow := (HL.out.rows.only HM.out.only HF.out).ints
      obtain ⟨gb, o, cc, e, hlc, _, p0⟩ := hrow.spot j hlt
      cases e
      have hx := HT.out s F w' l[j] j (List.getElem_mem hlt) hlt HRK.out HJ2.out HM.out.only
      have hrn := HRS.out j s l[j] HRK.out
      have hno := runS_no f s l j hlt
      have hyes := runS_yes f s l j hlt
      generalize l[j] = x at *
      obtain ⟨s', b, hsb⟩ : ∃ s' b, f s x = (s', b) := ⟨_, _, rfl⟩
      rw [hsb] at hx hno hyes hrn
      have HRN := Lib.hid hrn
      have HX := Lib.hid hx
      have HN := Lib.hid hno
      have HY := Lib.hid hyes
      have j0 : (0 : Int) ≤ (j : Int) := by omega
      have j1 : (j : Int) < (l.length : Int) := by omega
      clear hx hno hyes hsb hrow hrn
      cases b with
      | false =>
        go_wp2_with (go_at_fn g; (with_reducible refine HX.out.mono ?_); rintro e w1 ⟨rfl, F', hj1, hm1⟩; have HJ3 := Lib.hid hj1; have HM3 := Lib.hid hm1; clear hj1 hm1)
        go_step3
        exact ⟨rfl, HK.out (l.length - (j + 1)) _ _ (by omega) ⟨j + 1, _, s', F', rfl, by omega, by omega, (HN.out trivial).symm.trans HRU.out, HRN.out, HJ3.out, HM.out.trans HM3.out, _, _, _, _, _, _, _, _, _, _, _, _, _, _,  rfl⟩⟩
      | true =>
        go_wp2_with (go_at_fn g; (with_reducible refine HX.out.mono ?_); rintro e w1 ⟨rfl, F', hj1, hm1⟩; have HJ3 := Lib.hid hj1; have HM3 := Lib.hid hm1; clear hj1 hm1)
        simp only [Exit.jump]
        go_ret
        have hrr := (HY.out trivial).symm.trans HRU.out
        rw [← hrr]
        exact ⟨rfl, F', HJ3.out, HM.out.trans HM3.out⟩
    · have e : j = l.length := by omega
      subst e
      have hrr := HRU.out
      rw [runS_end] at hrr
      have HRR := Lib.hid hrr
      clear hrr hlt
      go_wp2
      simp only [Exit.jump]
      go_ret
      rw [← HRR.out]
      exact ⟨rfl, F, HJ2.out, HM.out⟩
  · intro K hpass
    go_wp2
    go_step3
    rename_i hback
    exact hback _ _ (hpass (l.length - 0) _ _ ⟨0, _, s0, F0, rfl, rfl, by omega, HR.out, HR0.out, HJ.out, Mv.refl _ _, _, _, _, _, _, _, _, _, _, _, _, _, _, _,  rfl⟩)
end Go.Proofs.Ytjmgokjljmmmgaa
/- Stage 17's program: each: a function that is handed on is told one number of a list behind the other. -/
namespace Go.Proofs.Ytjmgokjljmmmgaa
open Go.RowKit

/-- what is told, and the box b in which the function (tv) lies that is told -/
def EaJ {σ : Type} (J : σ → (Nat → Prop) → World → Prop) (b : Nat) (tv : Value) (s : σ) (F : Nat → Prop) (w : World) : Prop := ∃ F1, J s F1 w ∧ ¬ F1 b ∧ (∀ k, F k ↔ F1 k ∨ k = b) ∧ Blk w b [tv]

end Go.Proofs.Ytjmgokjljmmmgaa
/- Stage 17's program: Right, Has, Above: what is asked and told of a list. -/
namespace Go.Proofs.Ytjmgokjljmmmgaa
open Go.RowKit

/-- one box -/
def BoJ (b : Nat) (s : Value) (F : Nat → Prop) (w : World) : Prop := Blk w b [s] ∧ ∀ k, F k ↔ k = b
theorem bo_keep {σ : Type} (b : Nat) (v : σ → Value) : KeepJ fun (s : σ) F w => BoJ b (v s) F w where
  lt := by
    rintro s F w ⟨h1, h2⟩ k hk
    rw [(h2 k).1 hk]
    exact h1.lt
  out := by
    rintro s F w w' ⟨h1, h2⟩ _ he
    exact ⟨h1.same (he b ((h2 b).2 rfl)), h2⟩

set_option maxHeartbeats 1000000 in
theorem iRight1_any (b : Nat) (s x : Int) (F : Nat → Prop) (w : World) (h : BoJ b (.int .i64 s) F w) :
    Calls Try.prog 51 #[.int .i64 x, .pointer (some ⟨b, 0, none⟩)] w fun e w' => e = .returned (.bool (rgt s x).2) ∧ ∃ F', BoJ b (.int .i64 (rgt s x).1) F' w' ∧ Mv F F' w w' := by
  obtain ⟨h1, h2⟩ := h
  have HS : Hid (∀ v, Blk (w.setCell ⟨b, 0, none⟩ v) b [v]) := Lib.hid fun v => h1.set 0 v
  have H2 := Lib.hid h2
  have c0 := h1.cell 0 rfl
  have z0 := h1.free 0 rfl
  clear h1 h2
  unfold rgt
  go_enter Try.func51, Try.ntmps51
  go_wp2
  go_ret
  exact ⟨rfl, F, ⟨HS.out _, H2.out⟩, (Only.refl _ _).set _ _ ((H2.out b).2 rfl), fun k hk => .inl hk⟩

/-- the list without its first number, as the model cuts it -/
theorem from17 (a : Option Addr) (n c : Nat) (hk : 1 ≤ n) (hn : n ≤ c) : ∃ a4 c4, (∀ w', (Instr.sliceAt 30 (.slice a n c) (some (.int .i64 1)) none none).run Try.prog w' = .ok (.slice a4 (n - 1) c4) w') ∧
    (∀ (w' : World) (l : List Int), l.length = n → RowsAt w' 1 csI (.slice a n c) l → RowsAt w' 1 csI (.slice a4 (n - 1) c4) (l.drop 1)) ∧ ∀ k, (Value.slice a4 (n - 1) c4).ownBlock = some k → (Value.slice a n c).ownBlock = some k := by
  have h1 : (1 : Int) ≤ (n : Int) := by omega
  by_cases hck : c = 1
  · have hc0 : n = 1 := by omega
    refine ⟨a, 0, fun w' => ?_, fun w' l hl h => ?_, fun k h => by cases a <;> simp [Value.ownBlock] at h ⊢; exact h⟩
    · simp [go_sem, hck, hc0, sliced]
    · have := restAt13 h 1 (by omega) a (fun h => by omega)
      rwa [hck, Nat.sub_self] at this
  · refine ⟨a.map (fun x => x.add 1), c - 1, fun w' => ?_, fun w' l hl h => ?_, fun k h => ?_⟩
    · simp [go_sem, sliced, h1]
      exact fun h => absurd h hck
    · exact restAt13 h 1 (by omega) _ (fun _ g o e => by subst e; simp [Addr.add])
    · cases a with
      | none => simp [Value.ownBlock] at h
      | some a => simpa [Value.ownBlock, Addr.add] using h

set_option maxHeartbeats 1000000 in
theorem iRight_any (va : Value) (l : List Int) (w : World) (ha : IntsAt w va l) (hl : l.length ≤ 1000000) :
    Calls Try.prog 35 #[va] w fun e w' => e = .returned (.bool (rightB l)) ∧ Below w.heap.size w w' := by
  have hmf : ∀ (fn : Fn) (first cap : Array Value) (w : World), (Instr.makeFunc fn first cap).run Try.prog w = .ok (.func fn first cap) w := fun _ _ _ _ => rfl
  cases l with
  | nil =>
    obtain ⟨a, c, rfl⟩ := ha.form
    have e : rightB [] = true := by decide
    rw [e]
    clear ha
    go_enter Try.func35, Try.ntmps35
    go_wp2
    go_ret
    exact ⟨rfl, Below.refl _ _⟩
  | cons x t =>
    obtain ⟨g, o, c, e, hlc, hg, p0⟩ := ha.spot 0 (by simp)
    subst e
    have hal := (Below.refl w.heap.size w).alloc (Nat.le_refl _) (.cells #[.int .i64 x] 3)
    have hX := Blk.new w [.int .i64 x] 3
    obtain ⟨a4, c4, hsl, hrows, how⟩ := from17 (some ⟨g, o, none⟩) (x :: t).length c (by simp) hlc
    have hr := (hrows _ (x :: t) rfl (ha.below hal).rows).ints
    have hS := iSome_any (J := fun (s : Int) F w' => BoJ w.heap.size (.int .i64 s) F w') rgt 51 (.pointer (some ⟨w.heap.size, 0, none⟩)) (fun _ _ => by kernel_rfl) _ t _ hr (by simp at hl; omega) x
      (fun k => k = w.heap.size) (fun h0 k hk hf => by have := ha.rows.lt (by simp) k (how k hk); omega) ⟨hX, fun k => Iff.rfl⟩ (fun _ _ => True) trivial (fun _ _ _ _ => trivial)
      (fun s F w' y k hx _ _ hj ho => iRight1_any _ s y F w' hj)
    rw [runS_right, List.length_cons, Nat.add_sub_cancel] at hS
    rw [List.length_cons, Nat.add_sub_cancel] at hsl
    have HS := Lib.hid hS
    have HAL := Lib.hid hal
    generalize rightB (x :: t) = r at *
    replace p0 : w.cell? ⟨g, o, none⟩ = some (.int .i64 x) := by simpa using p0
    rw [List.length_cons] at *
    clear hal hX hS ha hr hrows how hg
    generalize t.length = n at *
    have n0 : (0 : Int) ≤ (n : Int) := by omega
    have n1 : ¬ ((n : Int) + 1 = 0) := by omega
    go_enter Try.func35, Try.ntmps35
    go_wp2_with (go_at_call 50; (with_reducible refine HS.out.mono ?_); rintro e w1 ⟨rfl, F', h1, hm⟩; have HM := Lib.hid hm; clear h1 hm)
    go_ret
    exact ⟨by simp, HAL.out.trans (HM.out.only.below (fun k hk => by omega) HAL.out.size)⟩
end Go.Proofs.Ytjmgokjljmmmgaa
/- Stage 17's program: Above; pick. -/
namespace Go.Proofs.Ytjmgokjljmmmgaa
open Go.RowKit

/-- three boxes: n, is there one (ok), the least -/
def AbJ (n : Int) (bn bo bl : Nat) (s : Int × Bool) (F : Nat → Prop) (w : World) : Prop := Blk w bn [.int .i64 n] ∧ Blk w bo [.bool s.2] ∧ Blk w bl [.int .i64 s.1] ∧ ∀ k, F k ↔ k = bn ∨ k = bo ∨ k = bl
theorem ab_keep (n : Int) (bn bo bl : Nat) : KeepJ (AbJ n bn bo bl) where
  lt := by
    rintro s F w ⟨h1, h2, h3, h4⟩ k hk
    rcases (h4 k).1 hk with rfl | rfl | rfl
    · exact h1.lt
    · exact h2.lt
    · exact h3.lt
  out := by
    rintro s F w w' ⟨h1, h2, h3, h4⟩ _ he
    exact ⟨h1.same (he _ ((h4 _).2 (.inl rfl))), h2.same (he _ ((h4 _).2 (.inr (.inl rfl)))), h3.same (he _ ((h4 _).2 (.inr (.inr rfl)))), h4⟩

end Go.Proofs.Ytjmgokjljmmmgaa
/- Stage 17's program: pick: the numbers that are wanted, in a list of one's own. -/
namespace Go.Proofs.Ytjmgokjljmmmgaa
open Go.RowKit

theorem OwnI.same17 {w w' : World} {B : Nat} {v : Value} {l : List Int} (h : OwnI w B v l) (he : ∀ k, v.ownBlock = some k → w'.heap[k]? = w.heap[k]?) : OwnI w' B v l := by
  refine ⟨h.1, ?_⟩
  rcases h.2 with h0 | ⟨g, cap, cur, rfl, hg, hh, rest⟩
  · exact .inl h0
  · exact .inr ⟨g, cap, cur, rfl, hg, (he g rfl).trans hh, rest⟩
theorem OwnI.cells17 {w : World} {B : Nat} {v : Value} {l : List Int} (h : OwnI w B v l) : ∀ k, v.ownBlock = some k → B ≤ k ∧ k < w.heap.size ∧ ∃ cur, w.heap[k]? = some (.cells cur 3) := by
  intro k hk
  rcases h.2 with ⟨rfl, _⟩ | ⟨g, cap, cur, rfl, hg, hh, _⟩
  · simp [Value.ownBlock] at hk
  · simp [Value.ownBlock] at hk
    subst hk
    exact ⟨hg, lt_of_block hh, cur, hh⟩
theorem hset1p {w : World} {b : Nat} {x : Value} {t : TypeId} (h : w.heap[b]? = some (.cells #[x] t)) (x' : Value) : (w.setCell ⟨b, 0, none⟩ x').heap[b]? = some (.cells #[x'] t) := by
  unfold World.setCell
  simp only [Array.getElem?_modify, if_pos, h, Option.map_some]
  rfl
/-- numbers that were picked, in the box q -/
def JP (q : Nat) (t : List Int) (F : Nat → Prop) (w : World) : Prop := ∃ v, w.heap[q]? = some (.cells #[v] 30) ∧ OwnI w 0 v t ∧ ∀ k, F k ↔ k = q ∨ v.ownBlock = some k
theorem jp_keep (q : Nat) : KeepJ (JP q) where
  lt := by
    rintro t F w ⟨v, h1, h2, h3⟩ k hk
    rcases (h3 k).1 hk with rfl | h
    · exact lt_of_block h1
    · exact (OwnI.cells17 h2 k h).2.1
  out := by
    rintro t F w w' ⟨v, h1, h2, h3⟩ _ he
    exact ⟨v, (he q ((h3 q).2 (.inl rfl))).trans h1, OwnI.same17 h2 fun k hk => he k ((h3 k).2 (.inr hk)), h3⟩
theorem jp_ne {q : Nat} {w : World} {v u : Value} {l : List Int} (hr : w.heap[q]? = some (.cells #[u] 30)) (h : OwnI w 0 v l) : v.ownBlock ≠ some q := fun e => by
  obtain ⟨_, _, cur, hc⟩ := OwnI.cells17 h q e
  rw [hr] at hc
  cases hc
/-- beside the box bw of the function that is asked whether a number is wanted -/
def PkJ (bw : Nat) (tv : Value) (bp : Nat) (t : List Int) (F : Nat → Prop) (w : World) : Prop := ∃ Fp, Blk w bw [tv] ∧ ¬ Fp bw ∧ JP bp t Fp w ∧ ∀ k, F k ↔ Fp k ∨ k = bw
theorem pk_keep (bw : Nat) (tv : Value) (bp : Nat) : KeepJ (PkJ bw tv bp) where
  lt := by
    rintro t F w ⟨Fp, h1, h2, h3, h4⟩ k hk
    rcases (h4 k).1 hk with h | rfl
    · exact (jp_keep bp).lt h3 k h
    · exact h1.lt
  out := by
    rintro t F w w' ⟨Fp, h1, h2, h3, h4⟩ hz he
    exact ⟨Fp, h1.same (he bw ((h4 bw).2 (.inr rfl))), h2, (jp_keep bp).out h3 hz fun k hk => he k ((h4 k).2 (.inl hk)), h4⟩

end Go.Proofs.Ytjmgokjljmmmgaa
