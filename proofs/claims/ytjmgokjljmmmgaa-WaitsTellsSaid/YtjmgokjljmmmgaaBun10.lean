/- Texts of this proof, joined: WaRefG; WaRefH; WaRefI; Sorted; IsMath; IsA; IsB. -/
import Derived.Test.YtjmgokjljmmmgaaBun9
import Derived.Sort.Grow
import Derived.Sort.EncStr
import Derived.Lib.SlicesCompact
import Derived.Lib.RowBridge
import Derived.Shelf.Abstract
/- Stage 21: the document's Ring, next, Chain. -/
namespace Go.Proofs.Ytjmgokjljmmmgaa
open Go.RowKit

theorem ring_left (Xs : List Le) (Ls : List Lr) : decide (0 < (leftL (endsW (arcsW Xs Ls)) (arcsW Xs Ls)).length) = ringW Xs Ls := by
  have h := left_len (endsW (arcsW Xs Ls)) (arcsW Xs Ls)
  unfold ringW
  rw [Bool.eq_iff_iff]
  simp only [Bool.not_eq_true', decide_eq_true_eq, decide_eq_false_iff_not]
  omega
set_option maxHeartbeats 8000000 in
set_option maxRecDepth 100000 in
theorem refRingW_any (vx vl : Value) (Xs : List Le) (Ls : List Lr) (W : World) (hx : LeasesAt W vx Xs) (hl : LocksAt W vl Ls) (hxl : Xs.length ≤ 100) (hll : Ls.length ≤ 1000) (hxw : ∀ x ∈ Xs, x.want.length ≤ 1000) :
    Calls Try.prog 9 #[vx, vl] W fun e w' => e = .returned (.bool (ringW Xs Ls)) ∧ Below W.heap.size W w' := by
  rw [← ring_left]
  have HA := Lib.hid (refArcsW_any vx vl Xs Ls W hx hl (by omega) hll hxw)
  have hal : (arcsW Xs Ls).length ≤ 100 := Nat.le_trans (arcs_len Xs Ls) hxl
  generalize arcsW Xs Ls = A at *
  have GL := Lib.hid fun (w' : World) (va vb : Value) (h1 : IntsAt w' va (endsW A)) (h2 : ArcsAt w' vb A) => refLeft_any va vb (endsW A) A w' h1 h2 (by rw [ends_len]; omega) (by omega)
  obtain ⟨r, hr⟩ : ∃ r, decide (0 < (leftL (endsW A) A).length) = r := ⟨_, rfl⟩
  rw [hr]
  have HR := Lib.hid hr
  have HAL := Lib.hid hal
  clear hx hl hxl hll hxw hal hr
  go_enter Try.func9, Try.ntmps9
  go_wp2_with (go_at_call 12; (with_reducible refine HA.out.mono ?_); rintro e w1 ⟨va, rfl, h1, b1⟩; obtain ⟨aa, ca, ea⟩ := RowsAt.form (OwnR.rows csArc_len h1); subst ea; have H1 := Lib.hid (OwnR.rows csArc_len h1); have HB1 := Lib.hid b1; clear h1 b1)
  have hb1 := Below.refl w1.heap.size w1
  go_loopg [6, 7] A.length (fun kx sv iv ws => ∃ k : Nat, k ≤ A.length ∧ A.length - k ≤ kx ∧ iv = .int .i64 k ∧ Hid (OwnI ws w1.heap.size sv (endsW (A.take k))) ∧ Hid (Below w1.heap.size w1 ws))
  case atStart => exact ⟨0, Nat.zero_le _, Nat.le_refl _, rfl, OwnR.nil _ _ _ _ _, hb1⟩
  case round =>
    clear hb1
    obtain ⟨k, hk, hkx, rfl, HO, HB⟩ := hrel
    obtain ⟨aT, cT, e⟩ := (OwnI.ints HO.out).form
    subst e
    by_cases hlt : k < A.length
    · have HLT := Lib.hid (And.intro hlt hkx)
      have k0 : (0 : Int) ≤ (k : Int) := by omega
      have k1 : (k : Int) < (A.length : Int) := by omega
      have k2 : (k : Int) ≤ 100 := by have := HAL.out; omega
      obtain ⟨g, o, cc, e, _, _, hx⟩ := (RowsAt.kept H1.out HB.out).spot k hlt
      cases e
      have p0 := hx 0 (.int .i64 (A[k]'hlt).src) rfl
      have p1 := hx 1 (.int .i64 (A[k]'hlt).dst) rfl
      simp only [Nat.add_zero] at p0
      have hnx := ends_next A k hlt
      have hel : (endsW (A.take k)).length ≤ 1000 := by
        rw [ends_len, List.length_take]
        have := HAL.out
        omega
      obtain ⟨⟨s, d⟩, hsd⟩ : ∃ a, A[k]'hlt = a := ⟨_, rfl⟩
      rw [hsd] at p0 p1 hnx
      simp only at p0 p1 hnx
      have HNX := Lib.hid hnx
      have HEL := Lib.hid hel
      generalize endsW (A.take k) = D at *
      clear hk hkx hlt hx hnx hel hsd
      obtain ⟨i0, hi, hz0, hz1, hz2⟩ := info_parts info_int
      go_upto_region 6 with fail
      refine wp_region_calmN 11 12 [(.cells #[.int .i64 s, .int .i64 d] 3, fun b => .slice (some ⟨b, 0, none⟩) 2 2)] (by kernel_rfl) (by simp) (by simp) (by kernel_rfl) fun M => ?_
      simp only [List.take_succ_cons, List.take_zero, List.drop_succ_cons, List.drop_zero, List.length_cons, List.length_nil]
      have m0 := fun n : In M.w => n.cell (M.cell p0)
      have m1 := fun n : In M.w => n.cell (M.cell p1)
      repeat (go_big_quiet_step (fail))
      refine wpQuiet_nil ?_
      clear m0 m1 M p0 p1
      refine ⟨rfl, fun n => by simp [go_sem], fun bp hbp _ w4 hw => ?_⟩
      have hb4 := hw.below
      have HH := Lib.hid (rowsOf csI_len [s, d] (hw.own bp _ (Gh.set_self _ _ _)))
      have HO4 := Lib.hid (OwnR.kept HO.out hb4)
      have HB4 := Lib.hid (HB.out.trans (hb4.mono HB.out.size))
      clear hw hb4
      go_wp2_with (at_builtin; refine wpList_append_rows csI_len (by decide) csI_one13 rfl _ _ 30 rfl w1.heap.size 3 i0 (.int .i64 0) 8 Try.underlying30 hi hz0 hz1 hz2 rfl _ _ rfl HO4.out _ [s, d] rfl HH.out (by have := HEL.out; unfold maxLen; simp; omega) (by have := HEL.out; simp; omega) HB4.out.size ?_; intro v5 w5 k1' k2'; have HO5 := Lib.hid k1'; have HB5 := Lib.hid (OwnR.below HO4.out HB4.out HB4.out.size k2'); clear k1' k2')
      go_roundg (A.length - (k + 1))
      case measure => have := HLT.out; omega
      case rel => exact ⟨k + 1, by have := HLT.out; omega, Nat.le_refl _, by go_num, by rw [HNX.out]; exact HO5.out, HB5.out⟩
    · have k1 : ¬ (k : Int) < (A.length : Int) := by omega
      have ho := OwnI.ints HO.out
      have hke : A.take k = A := List.take_of_length_le (by omega)
      rw [hke] at ho ⊢
      have GL2 := Lib.hid (GL.out wr _ _ ho (RowsAt.kept H1.out HB.out))
      have HZ : r = decide ((0 : Int) < ((leftL (endsW A) A).length : Int)) := by
        rw [← HR.out]
        simp
      have HZ2 := Lib.hid HZ
      clear hk hkx hlt HO hke ho HZ
      go_wp2_with (go_at_call 25; (with_reducible refine GL2.out.mono ?_); rintro e w3 ⟨v3, rfl, h3, b3⟩; obtain ⟨a3, c3, e3⟩ := (OwnI.ints h3).form; subst e3; have HB3 := Lib.hid (HB.out.trans (b3.mono HB.out.size)); clear h3 b3)
      go_ret
      exact ⟨ret_b (by rw [HZ2.out]; simp), HB1.out.trans (HB3.out.mono HB1.out.size)⟩
theorem head_hit {A : List Arc16} {n : Int} {i : Nat} (hi : i < A.length) (hn : (A.take i).find? (fun a => a.src == n) = none) (he : A[i].src = n) : headW A n = some A[i].dst := by
  have e : A = A.take i ++ A[i] :: A.drop (i + 1) := by rw [← List.drop_eq_getElem_cons hi, List.take_append_drop]
  have h := congrArg (fun B : List Arc16 => B.find? fun a => a.src == n) e
  simp only [List.find?_append, hn, Option.none_or] at h
  rw [List.find?_cons_of_pos (by simpa using he)] at h
  unfold headW
  rw [h]
  rfl
theorem head_miss {A : List Arc16} {n : Int} {i : Nat} (hi : i < A.length) (hn : (A.take i).find? (fun a => a.src == n) = none) (he : A[i].src ≠ n) : (A.take (i + 1)).find? (fun a => a.src == n) = none := by
  rw [List.take_succ_eq_append_getElem hi, List.find?_append, hn]
  simp [he]
set_option maxHeartbeats 4000000 in
set_option maxRecDepth 100000 in
theorem refNextW_any (va : Value) (A : List Arc16) (n : Int) (W : World) (ha : ArcsAt W va A) (hl : A.length ≤ 1000) :
    Calls Try.prog 30 #[va, .int .i64 n] W fun e w' => e = .returned (.tuple #[.int .i64 ((headW A n).getD 0), .bool (headW A n).isSome]) ∧ W = w' := by
  have HA := Lib.hid ha
  obtain ⟨a, c, rfl⟩ := RowsAt.form ha
  obtain ⟨h, hh⟩ : ∃ h, headW A n = h := ⟨_, rfl⟩
  rw [hh]
  have HH := Lib.hid hh
  clear ha hh
  go_enter Try.func30, Try.ntmps30
  go_wp2
  go_loopg [6] A.length (fun kx iv ws => ∃ i : Nat, i ≤ A.length ∧ A.length - i ≤ kx ∧ iv = .int .i64 i ∧ Hid ((A.take i).find? (fun a => a.src == n) = none) ∧ ws = W)
  case atStart => exact ⟨0, Nat.zero_le _, Nat.le_refl _, rfl, rfl, rfl⟩
  case round =>
    obtain ⟨i, hi, hix, rfl, HN, rfl⟩ := hrel
    by_cases hit : i < A.length
    · have HIT := Lib.hid (And.intro hit hix)
      have i0 : (0 : Int) ≤ (i : Int) := by omega
      have i1 : (i : Int) < (A.length : Int) := by omega
      have i2 : (i : Int) ≤ 1000 := by omega
      obtain ⟨g, o, cc, e, _, _, hx⟩ := HA.out.spot i hit
      cases e
      have p0 := hx 0 (.int .i64 (A[i]'hit).src) rfl
      have p1 := hx 1 (.int .i64 (A[i]'hit).dst) rfl
      simp only [Nat.add_zero] at p0
      by_cases he : (A[i]'hit).src = n
      · have hh := head_hit hit HN.out he
        rw [HH.out] at hh
        rw [he] at p0
        obtain ⟨d, hd⟩ : ∃ d, (A[i]'hit).dst = d := ⟨_, rfl⟩
        rw [hd] at hh p1
        subst hh
        clear hi hix hx he hd
        go_wp2
        exact bodyPost_ret (v := .tuple #[.int .i64 d, .bool true]) (by simp [results, Try.results30, go_sem]) rfl ⟨rfl, rfl⟩
      · have HN2 := Lib.hid (head_miss hit HN.out he)
        have he2 : ((A[i]'hit).src == n) = false := beq_noI he
        generalize (A[i]'hit).src = s at *
        generalize (A[i]'hit).dst = d at *
        clear hi hix hit hx he
        go_wp2
        go_roundg (A.length - (i + 1))
        case measure => have := HIT.out; omega
        case rel => exact ⟨i + 1, by have := HIT.out; omega, Nat.le_refl _, by go_num, HN2.out, rfl⟩
    · have i1 : ¬ (i : Int) < (A.length : Int) := by omega
      have hn := HN.out
      rw [List.take_of_length_le (by omega)] at hn
      have hh : h = none := by
        rw [← HH.out]
        unfold headW
        rw [hn]
        rfl
      subst hh
      clear hi hix hit hn
      go_wp2
      exact bodyPost_ret (v := .tuple #[.int .i64 0, .bool false]) (by simp [results, Try.results30, go_sem]) rfl ⟨rfl, rfl⟩
set_option maxHeartbeats 8000000 in
set_option maxRecDepth 100000 in
theorem refChainW_any (vx vl : Value) (Xs : List Le) (Ls : List Lr) (t : Int) (W : World) (hx : LeasesAt W vx Xs) (hl : LocksAt W vl Ls) (hxl : Xs.length ≤ 100) (hll : Ls.length ≤ 1000) (hxw : ∀ x ∈ Xs, x.want.length ≤ 1000) :
    Calls Try.prog 15 #[vx, vl, .int .i64 t] W fun e w' => ∃ v, e = .returned v ∧ IntsAt w' v (chainW Xs Ls t) ∧ Below W.heap.size W w' := by
  have hch : chainW Xs Ls t = chainC (headW (arcsW Xs Ls)) t (arcsW Xs Ls).length := rfl
  rw [hch]
  have HA := Lib.hid (refArcsW_any vx vl Xs Ls W hx hl (by omega) hll hxw)
  have hal : (arcsW Xs Ls).length ≤ 100 := Nat.le_trans (arcs_len Xs Ls) hxl
  generalize arcsW Xs Ls = A at *
  obtain ⟨R, hR⟩ : ∃ R, chainC (headW A) t A.length = R := ⟨_, rfl⟩
  rw [hR]
  have HR := Lib.hid hR
  have HAL := Lib.hid hal
  clear hx hl hxl hll hxw hal hR hch
  go_enter Try.func15, Try.ntmps15
  go_upto_region 2 with (go_at_call 12; (with_reducible refine HA.out.mono ?_); rintro e w1 ⟨va, rfl, h1, b1⟩; obtain ⟨aa, ca, ea⟩ := RowsAt.form (OwnR.rows csArc_len h1); subst ea; have H1 := Lib.hid (OwnR.rows csArc_len h1); have HB1 := Lib.hid b1; clear h1 b1)
  have ho := World.ownsRow_lit (base := w1.heap.size) (size := 1) (e := 3) w1 #[.int .i64 t] 1 (Nat.le_refl _) (by unfold maxLen; omega) rfl
  have hb := (Below.refl w1.heap.size w1).alloc (Nat.le_refl _) (.cells #[.int .i64 t] 3)
  go_wp2
  generalize w1.alloc (.cells #[.int .i64 t] 3) = w2 at *
  have HO2 := Lib.hid (show OwnI w2 w1.heap.size (.slice (some ⟨w1.heap.size, 0, none⟩) 1 1) [t] from ho)
  have HB2 := Lib.hid hb
  clear ho hb
  go_loopg [8] (A.length + 1) (fun kx sv ws => ∃ (j : Nat) (pre : List Int) (n : Int), j ≤ A.length ∧ A.length + 1 - j ≤ kx ∧ Hid (ChI A t j pre n) ∧ Hid (OwnI ws w1.heap.size sv (pre ++ [n])) ∧ Hid (Below w1.heap.size w1 ws))
  case atStart => exact ⟨0, [], t, Nat.zero_le _, Nat.le_refl _, ChI.zero A t, HO2.out, HB2.out⟩
  case round =>
    clear HO2 HB2
    obtain ⟨j, pre, n, hj, hjx, HC, HO, HB⟩ := hrel
    obtain ⟨aT, cT, e⟩ := (OwnI.ints HO.out).form
    have hl : (pre ++ [n]).length = j + 1 := by rw [List.length_append, HC.out.len]; rfl
    rw [hl] at e
    subst e
    have HJ := Lib.hid (And.intro hj hjx)
    have j0 : (0 : Int) ≤ (j : Int) := by omega
    have j2 : (j : Int) ≤ 100 := by have := HAL.out; omega
    obtain ⟨g, o, cc, e, _, _, p0⟩ := (OwnI.ints HO.out).spot j (by omega)
    rw [hl] at e
    cases e
    have hn : (pre ++ [n])[j]'(by omega) = n := by
      simp only [← HC.out.len]
      exact List.getElem_concat_length rfl _
    rw [hn] at p0
    have GN := Lib.hid (refNextW_any (.slice aa A.length ca) A n wr (RowsAt.kept H1.out HB.out) (by have := HAL.out; omega))
    have HL := Lib.hid hl
    obtain ⟨h, hh⟩ : ∃ h, headW A n = h := ⟨_, rfl⟩
    rw [hh] at GN
    clear hj hjx hl hn
    cases h with
    | none =>
      have HF := Lib.hid (show R = pre ++ [n] by rw [← HR.out]; exact HC.out.noHead HJ.out.1 hh)
      have HI := Lib.hid (OwnI.ints HO.out)
      clear hh
      go_wp2_with (go_at_call 30; (with_reducible refine GN.out.mono ?_); rintro e w3 ⟨rfl, rfl⟩)
      go_ret
      refine ⟨_, rfl, ?_, HB1.out.trans (HB.out.mono HB1.out.size)⟩
      have hi := HI.out
      rw [← HF.out] at hi
      exact hi
    | some m =>
      have GI := Lib.hid (refIn_any (.slice (some ⟨g, o, none⟩) (j + 1) cT) (pre ++ [n]) m wr (OwnI.ints HO.out) (by rw [HL.out]; have := HAL.out; have := HJ.out; omega))
      cases hin : inL (pre ++ [n]) m with
      | true =>
        have HF := Lib.hid (show R = pre ++ [n] by rw [← HR.out]; exact HC.out.was HJ.out.1 hh hin)
        have HI := Lib.hid (OwnI.ints HO.out)
        rw [hin] at GI
        clear hh hin
        go_wp2_with (first
          | (go_at_call 30; (with_reducible refine GN.out.mono ?_); rintro e w3 ⟨rfl, rfl⟩)
          | (go_at_call 31; (with_reducible refine GI.out.mono ?_); rintro e w3 ⟨rfl, rfl⟩))
        go_ret
        refine ⟨_, rfl, ?_, HB1.out.trans (HB.out.mono HB1.out.size)⟩
        have hi := HI.out
        rw [← HF.out] at hi
        exact hi
      | false =>
        have HC2 := Lib.hid (HC.out.next hh hin)
        have HRM := Lib.hid (HC.out.room hh)
        rw [hin] at GI
        clear hh hin
        go_wp2_with (first
          | (go_at_call 30; (with_reducible refine GN.out.mono ?_); rintro e w3 ⟨rfl, rfl⟩)
          | (go_at_call 31; (with_reducible refine GI.out.mono ?_); rintro e w3 ⟨rfl, rfl⟩)
          | (at_builtin; refine app1 HO.out HB.out.size (by rw [HL.out]; have := HAL.out; have := HJ.out; omega) rfl _ _ rfl rfl rfl ?_; intro v6 w6 o6 b6; have HO6 := Lib.hid o6; have HB6 := Lib.hid (HB.out.trans b6); clear o6 b6 p0))
        go_roundg (A.length + 1 - (j + 1))
        case measure => have := HJ.out; omega
        case rel => exact ⟨j + 1, pre ++ [n], m, HRM.out, Nat.le_refl _, HC2.out, HO6.out, HB6.out⟩
end Go.Proofs.Ytjmgokjljmmmgaa
/- Stage 21: the document's Ready, Few, Arrows. -/
namespace Go.Proofs.Ytjmgokjljmmmgaa
open Go.RowKit

theorem ready_le (Xs : List Le) (Ls : List Lr) : (readyW Xs Ls).length ≤ Xs.length := by
  unfold readyW
  rw [List.length_map]
  exact List.length_filter_le ..
set_option maxHeartbeats 16000000 in
set_option maxRecDepth 100000 in
theorem refReadyW_any (vx vl : Value) (Xs : List Le) (Ls : List Lr) (W : World) (hx : LeasesAt W vx Xs) (hl : LocksAt W vl Ls) (hxl : Xs.length ≤ 1000) (hll : Ls.length ≤ 1000) (hxw : ∀ x ∈ Xs, x.want.length ≤ 1000) (hlw : ∀ x ∈ Ls, x.wait.length ≤ 1000) :
    Calls Try.prog 17 #[vx, vl] W fun e w' => ∃ v, e = .returned v ∧ IntsAt w' v (readyW Xs Ls) ∧ Below W.heap.size W w' := by
  have HX := Lib.hid hx
  have HL := Lib.hid hl
  have HXL := Lib.hid hxl
  have HLL := Lib.hid hll
  have HXW := Lib.hid hxw
  have HLW := Lib.hid hlw
  obtain ⟨ax, cx, rfl⟩ := RowsAt.form hx.rows
  obtain ⟨al, cl, rfl⟩ := RowsAt.form hl.rows
  have hb0 := Below.refl W.heap.size W
  clear hx hl hxl hll hxw hlw
  go_enter Try.func17, Try.ntmps17
  go_wp2
  go_loopg [5, 6] Xs.length (fun kx sv iv ws => ∃ k : Nat, k ≤ Xs.length ∧ Xs.length - k ≤ kx ∧ iv = .int .i64 k ∧ Hid (OwnI ws W.heap.size sv (readyW (Xs.take k) Ls)) ∧ Hid (Below W.heap.size W ws))
  case atStart => exact ⟨0, Nat.zero_le _, Nat.le_refl _, rfl, OwnR.nil _ _ _ _ _, hb0⟩
  case round =>
    clear hb0
    obtain ⟨k, hk, hkx, rfl, HO, HB⟩ := hrel
    obtain ⟨aT, cT, e⟩ := (OwnI.ints HO.out).form
    subst e
    by_cases hlt : k < Xs.length
    · have HLT := Lib.hid (And.intro hlt hkx)
      have k0 : (0 : Int) ≤ (k : Int) := by omega
      have k1 : (k : Int) < (Xs.length : Int) := by omega
      have k2 : (k : Int) ≤ 1000 := by have := HXL.out; omega
      obtain ⟨g, o, cc, e, _, _, p0, p1, p2, p3, p4, p5, p6⟩ := leaseAt (RowsAt.kept HX.out.rows HB.out) k hlt
      cases e
      have hxi := (HX.out.each _ (List.getElem_mem hlt)).below HB.out
      have hxw := HXW.out _ (List.getElem_mem hlt)
      have hnx := ready_next Xs Ls k hlt
      have hla := LocksAt.below HL.out HB.out
      have hal : (readyW (Xs.take k) Ls).length ≤ 1000 := by
        have := ready_le (Xs.take k) Ls
        rw [List.length_take] at this
        have := HXL.out
        omega
      obtain ⟨x, hx⟩ : ∃ x, Xs[k]'hlt = x := ⟨_, rfl⟩
      rw [hx] at p0 p1 p2 p3 p4 p5 p6 hxi hxw hnx
      have hbx := (Below.refl wr.heap.size wr).alloc (Nat.le_refl _) (.cells #[.int .i64 x.token, .int .i64 x.task, .int .i64 x.worker, .int .i64 x.unit, .int .i64 x.due, .int .i64 x.got, .slice x.a x.want.length x.c] 35)
      have hX := Blk.new wr [.int .i64 x.token, .int .i64 x.task, .int .i64 x.worker, .int .i64 x.unit, .int .i64 x.due, .int .i64 x.got, .slice x.a x.want.length x.c] 35
      have GW := Lib.hid (refWaits21_any x (.slice al Ls.length cl) Ls (wr.alloc (.cells #[.int .i64 x.token, .int .i64 x.task, .int .i64 x.worker, .int .i64 x.unit, .int .i64 x.due, .int .i64 x.got, .slice x.a x.want.length x.c] 35)) (hla.below hbx).rows (hxi.below hbx) HLL.out hxw)
      have hwc := wt_cases Ls x
      have hrx : readyX Ls x = (decide (x.got = (x.want.length : Int)) || ((awX Ls x).map fun k => (k.holder == 0) && (k.wait.head? == some x.token)).getD false) := rfl
      obtain ⟨rx, hrxd⟩ : ∃ rx, readyX Ls x = rx := ⟨_, rfl⟩
      rw [hrxd] at hrx hnx
      obtain ⟨wt, hwt⟩ : ∃ wt, wtI Ls x = wt := ⟨_, rfl⟩
      rw [hwt] at GW hwc
      obtain ⟨aw, haw⟩ : ∃ aw, awX Ls x = aw := ⟨_, rfl⟩
      rw [haw] at hrx hwc
      obtain ⟨tk, ta, wo, un, du, go, xa, xc, xw⟩ := x
      simp only at p0 p1 p2 p3 p4 p5 hnx hrx hX hbx GW hxw
      change _ = some (Value.slice xa xw.length xc) at p6
      dsimp only [lev] at GW
      generalize xw.length = xn at *
      have HAL := Lib.hid hal
      generalize readyW (Xs.take k) Ls = D at *
      have HNX := Lib.hid hnx
      have HRX := Lib.hid hrx
      have HWC := Lib.hid hwc
      have HLA := Lib.hid (hla.below hbx)
      have HB6 := Lib.hid (HB.out.trans (hbx.mono HB.out.size))
      have HOX := Lib.hid (OwnR.kept HO.out hbx)
      have HXN := Lib.hid hxw
      clear hk hkx hlt hxi hx hnx hla hal hrx hwc hwt haw hrxd hxw
      go_upto_region 6 with fail
      generalize hw6 : wr.alloc (.cells #[.int .i64 tk, .int .i64 ta, .int .i64 wo, .int .i64 un, .int .i64 du, .int .i64 go, .slice xa xn xc] 35) = w6 at *
      replace hX : Blk w6 wr.heap.size [.int .i64 tk, .int .i64 ta, .int .i64 wo, .int .i64 un, .int .i64 du, .int .i64 go, .slice xa xn xc] := hX
      have HXB := Lib.hid hX
      have x0 := hX.cell 0 rfl
      have x1 := hX.cell 1 rfl
      have x2 := hX.cell 2 rfl
      have x3 := hX.cell 3 rfl
      have x4 := hX.cell 4 rfl
      have x5 := hX.cell 5 rfl
      have x6 := hX.cell 6 rfl
      clear hX hbx hw6 p0 p1 p2 p3 p4 p5 p6
      go_upto_region 7 with (go_at_call 27; (with_reducible refine GW.out.mono ?_); rintro e w7 ⟨rfl, b7⟩; have HB4 := Lib.hid b7; clear b7)
      clear x0 x1 x2 x3 x4 x5 x6
      have x0 := (HXB.out.kept HB4.out).cell 0 rfl
      have x5 := (HXB.out.kept HB4.out).cell 5 rfl
      have x6 := (HXB.out.kept HB4.out).cell 6 rfl
      generalize hbxx : wr.heap.size = bx at *
      clear hbxx
      go_cut [60] (fun c wx => c = .bool rx ∧ Below w6.heap.size w6 wx)
      case first =>
        by_cases hf : go = (xn : Int)
        · have hr : rx = true := by rw [HRX.out, decide_eq_true hf]; rfl
          subst hr
          subst hf
          have e1 : ((xn : Int) == (xn : Int)) = true := by simp
          refine wp_region_calm0 (by kernel_rfl) (by kernel_rfl) fun M => ?_
          have f0 := fun n : In M.w => n.cell (M.cell x0)
          have f1 := fun n : In M.w => n.cell (M.cell x5)
          have f2 := fun n : In M.w => n.cell (M.cell x6)
          repeat (go_big_quiet_step (fail))
          refine wpQuiet_nil ?_
          clear f0 f1 f2 M
          intro w5 hb5
          have HB5 := Lib.hid (HB4.out.trans (hb5.mono HB4.out.size))
          clear hb5 x0 x5 x6
          go_wp2
          go_meet
          exact ⟨rfl, HB5.out⟩
        · have e1 : (go == (xn : Int)) = false := beq_noI hf
          have hr := HRX.out
          rw [decide_eq_false hf, Bool.false_or] at hr
          rcases HWC.out with ⟨h1, h2⟩ | ⟨id, hid, h1, h2⟩
          · subst h1 h2
            simp only [Option.map_none, Option.getD_none] at hr
            subst hr
            refine wp_region_calm0 (by kernel_rfl) (by kernel_rfl) fun M => ?_
            have f0 := fun n : In M.w => n.cell (M.cell x0)
            have f1 := fun n : In M.w => n.cell (M.cell x5)
            have f2 := fun n : In M.w => n.cell (M.cell x6)
            repeat (go_big_quiet_step (fail))
            refine wpQuiet_nil ?_
            clear f0 f1 f2 M
            intro w5 hb5
            have HB5 := Lib.hid (HB4.out.trans (hb5.mono HB4.out.size))
            clear hb5 x0 x5 x6
            go_wp2
            go_meet
            exact ⟨rfl, HB5.out⟩
          · obtain ⟨kk, q, g2, o2, c2, e3, em, e5, e6, e7, q0, q1, q2, q3⟩ := lockSpot (HLA.out.below HB4.out) hid
            cases e7
            rw [h2, e3] at hr
            rw [e5] at h1
            subst h1
            simp only [Option.map_some, Option.getD_some] at hr
            have j0 : (0 : Int) ≤ (q : Int) := by omega
            have j1 : (q : Int) < (Ls.length : Int) := by omega
            have j2 : (q : Int) ≤ 1000 := by have := HLL.out; omega
            have hkw := HLW.out kk em
            obtain ⟨id', hh, ka, kc, kw⟩ := kk
            simp only at q1 q2 q3 hr hkw
            clear h2 e3 e5 e6 em hid q0
            by_cases hz : hh = 0
            · subst hz
              have ez : ((0 : Int) == 0) = true := rfl
              rw [ez, Bool.true_and] at hr
              cases kw with
              | nil =>
                have hr2 : rx = false := by rw [hr]; simp
                subst hr2
                have l0 : ¬ (0 : Int) < (([] : List Int).length : Int) := by simp
                simp only [List.length_nil] at q2
                clear hr q3
                refine wp_region_calm0 (by kernel_rfl) (by kernel_rfl) fun M => ?_
                have f0 := fun n : In M.w => n.cell (M.cell x0)
                have f1 := fun n : In M.w => n.cell (M.cell x5)
                have f2 := fun n : In M.w => n.cell (M.cell x6)
                have f3 := fun n : In M.w => n.cell (M.cell q1)
                have f4 := fun n : In M.w => n.cell (M.cell q2)
                repeat (go_big_quiet_step (fail))
                refine wpQuiet_nil ?_
                clear f0 f1 f2 f3 f4 M
                intro w5 hb5
                have HB5 := Lib.hid (HB4.out.trans (hb5.mono HB4.out.size))
                clear hb5 x0 x5 x6
                go_wp2
                go_meet
                exact ⟨rfl, HB5.out⟩
              | cons y rest =>
                obtain ⟨g4, o4, c4, e4, _, _, m0⟩ := q3.spot 0 (by simp)
                cases e4
                simp only [List.getElem_cons_zero, Nat.add_zero] at m0
                have hr2 : rx = (y == tk) := by rw [hr]; simp
                obtain ⟨kn, hkn⟩ : ∃ kn, (y :: rest).length = kn := ⟨_, rfl⟩
                rw [hkn] at q2 hkw
                have l1 : (0 : Int) < (kn : Int) := by rw [← hkn]; simp only [List.length_cons]; omega
                have l2 : (kn : Int) ≤ 1000 := by omega
                have l3 : 0 < kn := by omega
                clear hr q3 hkn
                by_cases hy : y = tk
                · have hr3 : rx = true := by rw [hr2, hy]; simp
                  subst hr3
                  rw [hy] at m0
                  have ey : (tk == tk) = true := by simp
                  clear hr2 hy
                  refine wp_region_calm0 (by kernel_rfl) (by kernel_rfl) fun M => ?_
                  have f0 := fun n : In M.w => n.cell (M.cell x0)
                  have f1 := fun n : In M.w => n.cell (M.cell x5)
                  have f2 := fun n : In M.w => n.cell (M.cell x6)
                  have f3 := fun n : In M.w => n.cell (M.cell q1)
                  have f4 := fun n : In M.w => n.cell (M.cell q2)
                  have f5 := fun n : In M.w => n.cell (M.cell m0)
                  repeat (go_big_quiet_step (fail))
                  refine wpQuiet_nil ?_
                  clear f0 f1 f2 f3 f4 f5 M
                  intro w5 hb5
                  have HB5 := Lib.hid (HB4.out.trans (hb5.mono HB4.out.size))
                  clear hb5 x0 x5 x6
                  go_wp2
                  go_meet
                  exact ⟨rfl, HB5.out⟩
                · have ey : (y == tk) = false := beq_noI hy
                  have hr3 : rx = false := hr2.trans ey
                  subst hr3
                  clear hr2
                  refine wp_region_calm0 (by kernel_rfl) (by kernel_rfl) fun M => ?_
                  have f0 := fun n : In M.w => n.cell (M.cell x0)
                  have f1 := fun n : In M.w => n.cell (M.cell x5)
                  have f2 := fun n : In M.w => n.cell (M.cell x6)
                  have f3 := fun n : In M.w => n.cell (M.cell q1)
                  have f4 := fun n : In M.w => n.cell (M.cell q2)
                  have f5 := fun n : In M.w => n.cell (M.cell m0)
                  repeat (go_big_quiet_step (fail))
                  refine wpQuiet_nil ?_
                  clear f0 f1 f2 f3 f4 f5 M
                  intro w5 hb5
                  have HB5 := Lib.hid (HB4.out.trans (hb5.mono HB4.out.size))
                  clear hb5 x0 x5 x6
                  go_wp2
                  go_meet
                  exact ⟨rfl, HB5.out⟩
            · have ez : (hh == 0) = false := beq_noI hz
              have hr2 : rx = false := by rw [hr, ez, Bool.false_and]
              subst hr2
              clear hr q3 q2
              refine wp_region_calm0 (by kernel_rfl) (by kernel_rfl) fun M => ?_
              have f0 := fun n : In M.w => n.cell (M.cell x0)
              have f1 := fun n : In M.w => n.cell (M.cell x5)
              have f2 := fun n : In M.w => n.cell (M.cell x6)
              have f3 := fun n : In M.w => n.cell (M.cell q1)
              repeat (go_big_quiet_step (fail))
              refine wpQuiet_nil ?_
              clear f0 f1 f2 f3 M
              intro w5 hb5
              have HB5 := Lib.hid (HB4.out.trans (hb5.mono HB4.out.size))
              clear hb5 x0 x5 x6
              go_wp2
              go_meet
              exact ⟨rfl, HB5.out⟩
      case rest =>
        obtain ⟨rfl, hbc⟩ := hcut
        have HBC := Lib.hid hbc
        have x0 := (HXB.out.kept hbc).cell 0 rfl
        have HB9 := Lib.hid (HB6.out.trans (hbc.mono HB6.out.size))
        have HO9 := Lib.hid (OwnR.kept HOX.out hbc)
        clear hbc
        cases rx with
        | false =>
          have HN2 := Lib.hid (HNX.out.trans (List.append_nil D))
          go_wp2
          go_roundg (Xs.length - (k + 1))
          case measure => have := HLT.out; omega
          case rel => exact ⟨k + 1, by have := HLT.out; omega, Nat.le_refl _, by go_num, by rw [HN2.out]; exact HO9.out, HB9.out⟩
        | true =>
          go_wp2_with (at_builtin; refine app1 HO9.out HB9.out.size (by have := HAL.out; omega) rfl _ _ rfl rfl rfl ?_; intro v6 w8 o6 b6; have HO10 := Lib.hid o6; have HB10 := Lib.hid (HB9.out.trans b6); clear o6 b6 x0)
          go_roundg (Xs.length - (k + 1))
          case measure => have := HLT.out; omega
          case rel => exact ⟨k + 1, by have := HLT.out; omega, Nat.le_refl _, by go_num, by rw [HNX.out]; exact HO10.out, HB10.out⟩
    · have k1 : ¬ (k : Int) < (Xs.length : Int) := by omega
      have ho := OwnI.ints HO.out
      have hke : Xs.take k = Xs := List.take_of_length_le (by omega)
      rw [hke] at ho ⊢
      have HO2 := Lib.hid ho
      clear hk hkx hlt ho HO hke
      go_wp2
      go_ret
      exact ⟨_, rfl, HO2.out, HB.out⟩
end Go.Proofs.Ytjmgokjljmmmgaa
/- Stage 21: the document's Few, Arrows. -/
namespace Go.Proofs.Ytjmgokjljmmmgaa
open Go.RowKit

set_option maxHeartbeats 4000000 in
set_option maxRecDepth 100000 in
theorem refArrows_any (va vb : Value) (A : List Arc16) (W : World) (ha : ArcsAt W va A) (hb : ArcsAt W vb A) (hl : A.length ≤ 1000) :
    Calls Try.prog 10 #[va, vb] W fun e w' => e = .returned (.bool true) ∧ Below W.heap.size W w' := by
  have HA := Lib.hid ha
  have HB := Lib.hid hb
  have HL := Lib.hid hl
  obtain ⟨a, c, rfl⟩ := RowsAt.form ha
  obtain ⟨b, d, rfl⟩ := RowsAt.form hb
  have hB := Below.refl W.heap.size W
  clear ha hb hl
  go_enter Try.func10, Try.ntmps10
  go_wp2
  go_loopg [5] A.length (fun kx iv ws => ∃ i : Nat, i ≤ A.length ∧ A.length - i ≤ kx ∧ iv = .int .i64 i ∧ Below W.heap.size W ws)
  case atStart => exact ⟨0, Nat.zero_le _, Nat.le_refl _, rfl, hB⟩
  case round =>
    clear hB
    obtain ⟨i, hi, hix, rfl, hbr⟩ := hrel
    have HBR := Lib.hid hbr
    by_cases hit : i < A.length
    · have HIT := Lib.hid (And.intro hit hix)
      have i0 : (0 : Int) ≤ (i : Int) := by omega
      have i1 : (i : Int) < (A.length : Int) := by omega
      have i2 : (i : Int) ≤ 1000 := by have := HL.out; omega
      obtain ⟨g, o, cc, e, _, _, hx⟩ := (RowsAt.kept HA.out hbr).spot i hit
      obtain ⟨g', o', cc', e', _, _, hy⟩ := (RowsAt.kept HB.out hbr).spot i hit
      cases e
      cases e'
      have p0 := hx 0 (.int .i64 (A[i]'hit).src) rfl
      have p1 := hx 1 (.int .i64 (A[i]'hit).dst) rfl
      have q0 := hy 0 (.int .i64 (A[i]'hit).src) rfl
      have q1 := hy 1 (.int .i64 (A[i]'hit).dst) rfl
      simp only [Nat.add_zero] at p0 q0
      obtain ⟨⟨s, d⟩, hsd⟩ : ∃ x, A[i]'hit = x := ⟨_, rfl⟩
      rw [hsd] at p0 p1 q0 q1
      simp only at p0 p1 q0 q1
      clear hi hix hit hx hy hsd hbr
      go_upto_region 6 with fail
      refine wp_region_calm0 (by kernel_rfl) (by kernel_rfl) fun M => ?_
      have f0 := fun n : In M.w => n.cell (M.cell p0)
      have f1 := fun n : In M.w => n.cell (M.cell p1)
      have f2 := fun n : In M.w => n.cell (M.cell q0)
      have f3 := fun n : In M.w => n.cell (M.cell q1)
      repeat (go_big_quiet_step (fail))
      refine wpQuiet_nil ?_
      clear f0 f1 f2 f3 M p0 p1 q0 q1
      intro w5 hb5
      have HB5 := Lib.hid (HBR.out.trans (hb5.mono HBR.out.size))
      clear hb5
      go_wp2
      go_roundg (A.length - (i + 1))
      case measure => have := HIT.out; omega
      case rel => exact ⟨i + 1, by have := HIT.out; omega, Nat.le_refl _, by go_num, HB5.out⟩
    · have i1 : ¬ (i : Int) < (A.length : Int) := by omega
      clear hi hix hit hbr
      go_wp2
      go_ret
      exact ⟨rfl, HBR.out⟩
theorem fewW_iff (Xs : List Le) (Ls : List Lr) : fewW Xs Ls = true ↔ (Xs.length ≤ 30 ∧ Ls.length ≤ 40) ∧ (∀ x ∈ Xs, x.want.length ≤ 40) ∧ ∀ x ∈ Ls, x.wait.length ≤ 40 := by
  unfold fewW
  simp only [Bool.and_eq_true, decide_eq_true_eq, List.all_eq_true]
set_option maxHeartbeats 4000000 in
set_option maxRecDepth 100000 in
theorem refFewW_any (vx vl : Value) (Xs : List Le) (Ls : List Lr) (W : World) (hx : RowsAt W 7 csLe vx Xs) (hl : RowsAt W 3 csL vl Ls) :
    Calls Try.prog 4 #[vx, vl] W fun e w' => e = .returned (.bool (fewW Xs Ls)) ∧ W = w' := by
  obtain ⟨r, hr⟩ : ∃ r, fewW Xs Ls = r := ⟨_, rfl⟩
  rw [hr]
  have HNO := Lib.hid (show (¬ ((Xs.length ≤ 30 ∧ Ls.length ≤ 40) ∧ (∀ x ∈ Xs, x.want.length ≤ 40) ∧ ∀ x ∈ Ls, x.wait.length ≤ 40)) → false = r from fun h => by
    rw [← hr]
    exact (Bool.eq_false_iff.2 fun h2 => h ((fewW_iff Xs Ls).1 h2)).symm)
  have HYES := Lib.hid (show ((Xs.length ≤ 30 ∧ Ls.length ≤ 40) ∧ (∀ x ∈ Xs, x.want.length ≤ 40) ∧ ∀ x ∈ Ls, x.wait.length ≤ 40) → true = r from fun h => by
    rw [← hr]
    exact ((fewW_iff Xs Ls).2 h).symm)
  have HX := Lib.hid hx
  have HL := Lib.hid hl
  obtain ⟨ax, cx, rfl⟩ := RowsAt.form hx
  obtain ⟨al, cl, rfl⟩ := RowsAt.form hl
  clear hx hl hr
  by_cases h30 : Xs.length ≤ 30
  · have g1 : ¬ (30 : Int) < (Xs.length : Int) := by omega
    by_cases h40 : Ls.length ≤ 40
    · have g2 : ¬ (40 : Int) < (Ls.length : Int) := by omega
      have H30 := Lib.hid h30
      have H40 := Lib.hid h40
      clear h30 h40
      go_enter Try.func4, Try.ntmps4
      go_wp2
      go_loopg [5] Xs.length (fun kx iv ws => ∃ i : Nat, i ≤ Xs.length ∧ Xs.length - i ≤ kx ∧ iv = .int .i64 i ∧ Hid (∀ x ∈ Xs.take i, x.want.length ≤ 40) ∧ ws = W)
      case atStart => exact ⟨0, Nat.zero_le _, Nat.le_refl _, rfl, (fun x hx => (by simp at hx)), rfl⟩
      case round =>
        obtain ⟨i, hi, hix, rfl, HW, rfl⟩ := hrel
        by_cases hit : i < Xs.length
        · have HIT := Lib.hid (And.intro hit hix)
          have i0 : (0 : Int) ≤ (i : Int) := by omega
          have i1 : (i : Int) < (Xs.length : Int) := by omega
          have i2 : (i : Int) ≤ 30 := by have := H30.out; omega
          obtain ⟨g, o, cc, e, z0, z1, p0, p1, p2, p3, p4, p5, p6⟩ := leaseAt HX.out i hit
          cases e
          have hm := List.getElem_mem hit
          have hsn : Xs.take (i + 1) = Xs.take i ++ [Xs[i]'hit] := List.take_succ_eq_append_getElem hit
          clear p0 p1 p2 p3 p4 p5 z0 z1
          obtain ⟨x, hx⟩ : ∃ x, Xs[i]'hit = x := ⟨_, rfl⟩
          rw [hx] at p6 hm hsn
          by_cases hw : x.want.length ≤ 40
          · have q1 : ¬ (40 : Int) < (x.want.length : Int) := by omega
            have HW2 := Lib.hid (show ∀ x ∈ Xs.take (i + 1), x.want.length ≤ 40 from fun y hy => by
              rw [hsn] at hy
              rcases List.mem_append.1 hy with hy | hy
              · exact HW.out y hy
              · rw [List.mem_singleton.1 hy]; exact hw)
            clear hi hix hit hx hm hsn hw
            go_wp2
            go_roundg (Xs.length - (i + 1))
            case measure => have := HIT.out; omega
            case rel => exact ⟨i + 1, by have := HIT.out; omega, Nat.le_refl _, by go_num, HW2.out, rfl⟩
          · have q1 : (40 : Int) < (x.want.length : Int) := by omega
            have HF := Lib.hid (HNO.out fun h => hw (h.2.1 x hm))
            clear hi hix hit hx hm hsn hw
            go_wp2
            go_ret
            exact ⟨ret_b HF.out, rfl⟩
        · have i1 : ¬ (i : Int) < (Xs.length : Int) := by omega
          have HXW := Lib.hid (show ∀ x ∈ Xs, x.want.length ≤ 40 from fun x hx => HW.out x (by rw [List.take_of_length_le (by omega)]; exact hx))
          clear hi hix hit HW
          go_wp2
          go_loopg [6] Ls.length (fun kx iv ws => ∃ i : Nat, i ≤ Ls.length ∧ Ls.length - i ≤ kx ∧ iv = .int .i64 i ∧ Hid (∀ x ∈ Ls.take i, x.wait.length ≤ 40) ∧ ws = wr)
          case atStart => exact ⟨0, Nat.zero_le _, Nat.le_refl _, rfl, (fun x hx => (by simp at hx)), rfl⟩
          case round =>
            obtain ⟨i, hi, hix, rfl, HW, rfl⟩ := hrel
            by_cases hit : i < Ls.length
            · have HIT := Lib.hid (And.intro hit hix)
              have i0 : (0 : Int) ≤ (i : Int) := by omega
              have i1 : (i : Int) < (Ls.length : Int) := by omega
              have i2 : (i : Int) ≤ 40 := by have := H40.out; omega
              obtain ⟨g, o, cc, e, z0, z1, p0, p1, p2⟩ := RowsAt.atL HL.out i hit
              cases e
              have hm := List.getElem_mem hit
              have hsn : Ls.take (i + 1) = Ls.take i ++ [Ls[i]'hit] := List.take_succ_eq_append_getElem hit
              clear p0 p1 z0 z1
              obtain ⟨x, hx⟩ : ∃ x, Ls[i]'hit = x := ⟨_, rfl⟩
              rw [hx] at p2 hm hsn
              by_cases hw : x.wait.length ≤ 40
              · have q1 : ¬ (40 : Int) < (x.wait.length : Int) := by omega
                have HW2 := Lib.hid (show ∀ x ∈ Ls.take (i + 1), x.wait.length ≤ 40 from fun y hy => by
                  rw [hsn] at hy
                  rcases List.mem_append.1 hy with hy | hy
                  · exact HW.out y hy
                  · rw [List.mem_singleton.1 hy]; exact hw)
                clear hi hix hit hx hm hsn hw
                go_wp2
                go_roundg (Ls.length - (i + 1))
                case measure => have := HIT.out; omega
                case rel => exact ⟨i + 1, by have := HIT.out; omega, Nat.le_refl _, by go_num, HW2.out, rfl⟩
              · have q1 : (40 : Int) < (x.wait.length : Int) := by omega
                have HF := Lib.hid (HNO.out fun h => hw (h.2.2 x hm))
                clear hi hix hit hx hm hsn hw
                go_wp2
                go_ret
                exact ⟨ret_b HF.out, rfl⟩
            · have i1 : ¬ (i : Int) < (Ls.length : Int) := by omega
              have HF := Lib.hid (HYES.out ⟨⟨H30.out, H40.out⟩, HXW.out, fun x hx => HW.out x (by rw [List.take_of_length_le (by omega)]; exact hx)⟩)
              clear hi hix hit HW
              go_wp2
              go_ret
              exact ⟨ret_b HF.out, rfl⟩
    · have g2 : (40 : Int) < (Ls.length : Int) := by omega
      have HF := Lib.hid (HNO.out fun h => h40 h.1.2)
      clear h30 h40
      go_enter Try.func4, Try.ntmps4
      go_wp2
      go_ret
      exact ⟨ret_b HF.out, rfl⟩
  · have g1 : (30 : Int) < (Xs.length : Int) := by omega
    have HF := Lib.hid (HNO.out fun h => h30 h.1.1)
    clear h30
    go_enter Try.func4, Try.ntmps4
    go_wp2
    go_ret
    exact ⟨ret_b HF.out, rfl⟩
end Go.Proofs.Ytjmgokjljmmmgaa
/- A list of numbers that the call has gathered, sorted and without repetitions: what the library's contracts give. -/
namespace Go.Proofs.Ytjmgokjljmmmgaa
open Go.RowKit Go.Sort

/-! ### Lists that rise -/
theorem rise_ext : ∀ {l r : List Int}, l.Pairwise (· < ·) → r.Pairwise (· < ·) → (∀ m, m ∈ l ↔ m ∈ r) → l = r
  | [], [], _, _, _ => rfl
  | [], y :: r, _, _, h => absurd ((h y).2 (by simp)) (by simp)
  | x :: l, [], _, _, h => absurd ((h x).1 (by simp)) (by simp)
  | x :: l, y :: r, hl, hr, h => by
    rw [List.pairwise_cons] at hl hr
    have e : x = y := by
      have h1 := (h x).1 (by simp)
      have h2 := (h y).2 (by simp)
      rw [List.mem_cons] at h1 h2
      rcases h1 with h1 | h1
      · exact h1
      · rcases h2 with h2 | h2
        · exact h2.symm
        · have := hl.1 _ h2
          have := hr.1 _ h1
          omega
    subst e
    have : l = r := rise_ext hl.2 hr.2 fun m => by
      have := h m
      rw [List.mem_cons, List.mem_cons] at this
      constructor
      · intro hm
        have h3 := hl.1 _ hm
        rcases this.1 (.inr hm) with rfl | h4
        · omega
        · exact h4
      · intro hm
        have h3 := hr.1 _ hm
        rcases this.2 (.inr hm) with rfl | h4
        · omega
        · exact h4
    rw [this]

theorem sorted_ms (zs : List Int) : (zs.mergeSort fun x y => decide (x ≤ y)).Pairwise (· ≤ ·) := by
  have := List.pairwise_mergeSort (le := fun x y : Int => decide (x ≤ y)) (fun a b c h1 h2 => by simp at *; omega) (fun a b => by simp; omega) zs
  exact this.imp fun h => by simpa using h

theorem compact_rise {zs : List Int} (h : zs.Pairwise (· ≤ ·)) : (Lib.compact zs).Pairwise (· < ·) := by
  unfold Lib.compact Lib.compactUpTo
  rw [List.pairwise_map]
  have h1 : (List.range zs.length).Pairwise (· < ·) := List.pairwise_lt_range
  have h2 := h1.filter (Lib.keeps zs.toArray)
  refine List.Pairwise.imp_of_mem (fun {i j} hi hj hij => ?_) h2
  have hjm := List.mem_filter.1 hj
  have hjl : j < zs.length := List.mem_range.1 hjm.1
  have hk := hjm.2
  unfold Lib.keeps at hk
  rw [decide_eq_true_eq] at hk
  rcases hk with hk | hk
  · omega
  · have g : ∀ a b, a ≤ b → b < zs.length → zs.toArray[a]! ≤ zs.toArray[b]! := by
      intro a b hab hb
      rcases Nat.lt_or_ge a b with hlt | hge
      · have := List.pairwise_iff_getElem.1 h a b (by omega) hb hlt
        simpa [getElem!_pos, show a < zs.length by omega, hb] using this
      · have : a = b := by omega
        subst this
        exact Int.le_refl _
    have h3 := g i (j - 1) (by omega) (by omega)
    have h4 := g (j - 1) j (by omega) hjl
    omega

theorem compact_mem (zs : List Int) (m : Int) : m ∈ Lib.compact zs ↔ m ∈ zs := by
  unfold Lib.compact Lib.compactUpTo
  rw [List.mem_map]
  constructor
  · rintro ⟨i, hi, rfl⟩
    have := List.mem_range.1 (List.mem_filter.1 hi).1
    simp [getElem!_pos, this]
  · intro hm
    obtain ⟨i, hi, rfl⟩ := List.getElem_of_mem hm
    have key : ∀ n, ∀ i (hi : i < zs.length), i < n → ∃ a, a ∈ (List.range zs.length).filter (Lib.keeps zs.toArray) ∧ zs.toArray[a]! = zs[i] := by
      intro n
      induction n with
      | zero => intro i hi h; omega
      | succ n ih =>
        intro i hi h
        by_cases hk : Lib.keeps zs.toArray i = true
        · exact ⟨i, List.mem_filter.2 ⟨List.mem_range.2 hi, hk⟩, by simp [getElem!_pos, hi]⟩
        · unfold Lib.keeps at hk
          rw [decide_eq_true_eq] at hk
          have h0 : i ≠ 0 := fun e => hk (.inl e)
          have h1 : zs.toArray[i]! = zs.toArray[i - 1]! := by
            by_cases e : zs.toArray[i]! = zs.toArray[i - 1]!
            · exact e
            · exact absurd (.inr e) hk
          obtain ⟨a, ha, he⟩ := ih (i - 1) (by omega) (by omega)
          refine ⟨a, ha, ?_⟩
          rw [he]
          simp [getElem!_pos, hi, show i - 1 < zs.length by omega] at h1
          exact h1.symm
    exact key (i + 1) i hi (by omega)

/-! ### In memory -/
theorem below_row {B blk off n : Nat} {a w : World} {d : Array Int} {os : Array Obj} (h : Below B a w) (hb : B ≤ blk) (hz : B ≤ w.heap.size) : Below B a (grow (putRow (Value.int .i64) (Sort.ahead w n) blk off d) os) := by
  refine h.trans ⟨rfl, rfl, rfl, by simp, fun k hk => ?_⟩
  rw [heap_grow_old _ _ (by simp; omega)]
  have : blk ≠ k := by omega
  simp [putRow, mapBlock, Sort.ahead, Array.getElem?_modify, this]
theorem below_row' {B blk off n : Nat} {a w : World} {d : Array Int} (h : Below B a w) (hb : B ≤ blk) (hz : B ≤ w.heap.size) : Below B a (putRow (Value.int .i64) (Sort.ahead w n) blk off d) := by
  have := below_row (n := n) (off := off) (d := d) (os := #[]) h hb hz
  rwa [grow_empty] at this
theorem ints_of_holds {w : World} {blk cap : Nat} {zs : List Int} {d : Array Int} (hH : Holds (Value.int .i64) w blk 0 d) (hb : blk < w.heap.size) (hd : ∀ j x, zs[j]? = some x → j < d.size ∧ d[j]! = x) (hc : zs.length ≤ cap) : IntsAt w (.slice (some ⟨blk, 0, none⟩) zs.length cap) zs := by
  refine ⟨_, cap, rfl, hc, fun _ => ⟨blk, 0, rfl, hb, fun j x hj => ?_⟩⟩
  obtain ⟨h1, h2⟩ := hd j x hj
  have := (hH j h1).1
  rw [h2] at this
  exact this
/-- a list that the call has gathered, of at least one -/
theorem OwnI.holds {w : World} {B : Nat} {v : Value} {l : List Int} (h : OwnI w B v l) (h0 : 0 < l.length) :
    ∃ g cap, v = .slice (some ⟨g, 0, none⟩) l.length cap ∧ B ≤ g ∧ g < w.heap.size ∧ l.length ≤ cap ∧ Holds (Value.int .i64) w g 0 l.toArray := by
  rcases h.2 with ⟨rfl, he⟩ | ⟨g, cap, cur, rfl, hg, hh, hnc, hcp, hcs, htake⟩
  · omega
  · refine ⟨g, cap, rfl, hg, (Array.getElem?_eq_some_iff.1 hh).1, hnc, fun j hj => ?_⟩
    have hj' : j < l.length := by simpa using hj
    refine ⟨?_, by simp [World.frozen?, hh]⟩
    have h1 := flats_at csI_len l j l[j] (List.getElem?_eq_getElem hj') 0 (.int .i64 l[j]) rfl
    rw [Nat.mul_one, Nat.add_zero, ← htake, List.getElem?_take_of_lt (by omega)] at h1
    simp only [World.cell?, hh, Nat.zero_add]
    simp [hj'] at h1 ⊢
    exact h1

/-- behind the sort and Compact -/
theorem ints_compact {w : World} {g cap n q : Nat} {os : Array Obj} {l : List Int} (hH : Holds (Value.int .i64) w g 0 l.toArray) (hg : g < w.heap.size) (hc : l.length ≤ cap) :
    IntsAt (putRow (Value.int .i64) (Sort.ahead (grow (putRow (Value.int .i64) (Sort.ahead w n) g 0 (l.mergeSort fun x y => decide (x ≤ y)).toArray) os) q) g 0 (Lib.compact (l.mergeSort fun x y => decide (x ≤ y)) ++ List.replicate ((l.mergeSort fun x y => decide (x ≤ y)).length - (Lib.compact (l.mergeSort fun x y => decide (x ≤ y))).length) 0).toArray)
      (.slice (some ⟨g, 0, none⟩) (Lib.compact (l.mergeSort fun x y => decide (x ≤ y))).length cap) (Lib.compact (l.mergeSort fun x y => decide (x ≤ y))) := by
  have hlen : (l.mergeSort fun x y => decide (x ≤ y)).length = l.length := List.length_mergeSort l
  generalize (l.mergeSort fun x y => decide (x ≤ y)) = s at *
  have hcl := Lib.compact_length_le s
  have H1 : Holds (Value.int .i64) (grow (putRow (Value.int .i64) (Sort.ahead w n) g 0 s.toArray) os) g 0 s.toArray :=
    holds_grow _ _ _ _ _ _ (by simpa using hg) (holds_putRow _ _ _ _ l.toArray _ (holds_ahead _ _ _ _ _ _ hH) (by simpa using hlen))
  have H2 := holds_putRow (Value.int .i64) (Sort.ahead (grow (putRow (Value.int .i64) (Sort.ahead w n) g 0 s.toArray) os) q) g 0 s.toArray (Lib.compact s ++ List.replicate (s.length - (Lib.compact s).length) 0).toArray (holds_ahead _ _ _ _ _ _ H1) (by simp; omega)
  refine ints_of_holds H2 (by simp; omega) (fun j x hj => ?_) (by omega)
  have hjl := (List.getElem?_eq_some_iff.1 hj).1
  refine ⟨by simp; omega, ?_⟩
  rw [getElem!_pos _ _ (by simp; omega)]
  rw [List.getElem?_eq_getElem hjl] at hj
  simp [List.getElem_append_left hjl]
  exact Option.some.inj hj
theorem holds_sorted {w : World} {g n : Nat} {os : Array Obj} {l : List Int} (hH : Holds (Value.int .i64) w g 0 l.toArray) (hg : g < w.heap.size) :
    Holds (Value.int .i64) (grow (putRow (Value.int .i64) (Sort.ahead w n) g 0 (l.mergeSort fun x y => decide (x ≤ y)).toArray) os) g 0 (l.mergeSort fun x y => decide (x ≤ y)).toArray :=
  holds_grow _ _ _ _ _ _ (by simpa using hg) (holds_putRow _ _ _ _ l.toArray _ (holds_ahead _ _ _ _ _ _ hH) (by simp))
end Go.Proofs.Ytjmgokjljmmmgaa
/- Stage 17's program: plain mathematics of what is asked and told, one number behind the other. -/
namespace Go.Proofs.Ytjmgokjljmmmgaa

/-- one number behind the other is asked, till it is so of one -/
def runS {σ : Type} (f : σ → Int → σ × Bool) : σ → List Int → σ × Bool
  | s, [] => (s, false)
  | s, x :: l => if (f s x).2 then ((f s x).1, true) else runS f (f s x).1 l
theorem runS_cons {σ : Type} (f : σ → Int → σ × Bool) (s : σ) (x : Int) (l : List Int) : runS f s (x :: l) = if (f s x).2 then ((f s x).1, true) else runS f (f s x).1 l := rfl
theorem runS_no {σ : Type} (f : σ → Int → σ × Bool) (s : σ) (l : List Int) (k : Nat) (h : k < l.length) (hf : (f s l[k]).2 = false) : runS f s (l.drop k) = runS f (f s l[k]).1 (l.drop (k + 1)) := by
  rw [List.drop_eq_getElem_cons h, runS_cons, hf]
  simp
theorem runS_yes {σ : Type} (f : σ → Int → σ × Bool) (s : σ) (l : List Int) (k : Nat) (h : k < l.length) (hf : (f s l[k]).2 = true) : runS f s (l.drop k) = ((f s l[k]).1, true) := by
  rw [List.drop_eq_getElem_cons h, runS_cons, hf]
  simp
theorem runS_end {σ : Type} (f : σ → Int → σ × Bool) (s : σ) (l : List Int) : runS f s (l.drop l.length) = (s, false) := by
  rw [List.drop_length]
  rfl
theorem runS_each {σ : Type} (g : σ → Int → σ) : ∀ (l : List Int) (s : σ), runS (fun s x => (g s x, false)) s l = (l.foldl g s, false)
  | [], _ => rfl
  | x :: l, s => by
    have := runS_each g l (g s x)
    rw [runS_cons]
    simpa using this
theorem runS_any (p : Int → Bool) : ∀ (l : List Int), (runS (fun (_ : Unit) x => ((), p x)) () l).2 = l.any p
  | [] => rfl
  | x :: l => by
    have := runS_any p l
    rw [runS_cons]
    cases h : p x <;> simp_all
theorem any_in (l : List Int) (n : Int) : l.any (fun m => m == n) = inL l n := by
  unfold inL
  rw [Bool.eq_iff_iff, List.any_eq_true, decide_eq_true_iff]
  constructor
  · rintro ⟨x, h1, h2⟩
    have := eq_of_beq h2
    rwa [← this]
  · intro h
    exact ⟨n, h, by simp⟩
theorem any_not (a b : List Int) : (!a.any fun x => !inL b x) = withinB a b := by
  rw [Bool.eq_iff_iff, within_iff, List.not_any_eq_all_not, List.all_eq_true]
  constructor
  · intro h x hx
    have := h x hx
    rw [Bool.not_not] at this
    exact inL_iff.1 this
  · intro h x hx
    rw [Bool.not_not]
    exact inL_iff.2 (h x hx)
/-- does it not rise -/
def rgt (a n : Int) : Int × Bool := (n, !decide (a < n))
theorem ris_two {a x : Int} {l : List Int} : risL (a :: x :: l) ↔ a < x ∧ risL (x :: l) := by
  unfold risL
  rw [List.pairwise_cons]
  constructor
  · rintro ⟨h1, h2⟩
    exact ⟨h1 x (by simp), h2⟩
  · rintro ⟨h1, h2⟩
    refine ⟨fun y hy => ?_, h2⟩
    rcases List.mem_cons.1 hy with rfl | hy
    · exact h1
    · have := (List.pairwise_cons.1 h2).1 y hy
      omega
theorem runS_right : ∀ (l : List Int) (a : Int), (runS rgt a l).2 = !rightB (a :: l)
  | [], a => by
    have : risL [a] := List.pairwise_singleton _ _
    simp [runS, rightB, this]
  | x :: l, a => by
    have ih := runS_right l x
    rw [runS_cons]
    show (if (!decide (a < x)) = true then (x, true) else runS rgt x l).2 = _
    by_cases h : a < x
    · have e : rightB (a :: x :: l) = rightB (x :: l) := by
        unfold rightB
        exact decide_eq_decide.2 (ris_two.trans (and_iff_right h))
      rw [e, ← ih]
      simp [h]
    · have e : rightB (a :: x :: l) = false := by
        unfold rightB
        exact decide_eq_false fun hr => h (ris_two.1 hr).1
      rw [e]
      simp [h]
/-- the least above n of those that were told -/
def abS (n : Int) (s : Int × Bool) (m : Int) : Int × Bool := if n < m ∧ (s.2 = false ∨ m < s.1) then (m, true) else s
def AbI (n : Int) (p : List Int) (s : Int × Bool) : Prop := (s = (0, false) ∧ ∀ x ∈ p, x ≤ n) ∨ (s.2 = true ∧ s.1 ∈ p ∧ n < s.1 ∧ ∀ x ∈ p, n < x → s.1 ≤ x)
theorem AbI.step {n : Int} {p : List Int} {s : Int × Bool} (h : AbI n p s) (m : Int) : AbI n (p ++ [m]) (abS n s m) := by
  unfold abS
  obtain ⟨a, b⟩ := s
  by_cases hc : n < m ∧ (b = false ∨ m < a)
  · rw [if_pos hc]
    refine .inr ⟨rfl, by simp, hc.1, fun x hx hn => ?_⟩
    rcases List.mem_append.1 hx with hx | hx
    · rcases h with ⟨e, h⟩ | ⟨e, h1, h2, h3⟩
      · have := h x hx; omega
      · have h4 := h3 x hx hn
        have h5 : m < a := hc.2.resolve_left fun e2 => by simp only at e; rw [e2] at e; cases e
        simp only at h4 ⊢
        omega
    · rw [List.mem_singleton.1 hx]
      exact Int.le_refl _
  · rw [if_neg hc]
    rcases h with ⟨e, h⟩ | ⟨e, h1, h2, h3⟩
    · refine .inl ⟨e, fun x hx => ?_⟩
      rcases List.mem_append.1 hx with hx | hx
      · exact h x hx
      · rw [List.mem_singleton.1 hx]
        cases e
        exact Int.not_lt.1 fun h => hc ⟨h, .inl rfl⟩
    · refine .inr ⟨e, List.mem_append_left _ h1, h2, fun x hx hn => ?_⟩
      rcases List.mem_append.1 hx with hx | hx
      · exact h3 x hx hn
      · rw [List.mem_singleton.1 hx] at hn ⊢
        exact Int.not_lt.1 fun h => hc ⟨hn, .inr h⟩
theorem AbI.fold {n : Int} : ∀ (l p : List Int) (s : Int × Bool), AbI n p s → AbI n (p ++ l) (l.foldl (abS n) s)
  | [], p, s, h => by simpa using h
  | x :: l, p, s, h => by
    have := AbI.fold l (p ++ [x]) _ (h.step x)
    rw [List.append_assoc] at this
    exact this
theorem AbI.is {n : Int} {l : List Int} {s : Int × Bool} (h : AbI n l s) : s = abvL l n := by
  unfold abvL
  rcases h with ⟨e, h⟩ | ⟨e, h1, h2, h3⟩
  · have hf : (setL l).find? (fun x => decide (n < x)) = none := by
      rw [List.find?_eq_none]
      intro x hx
      have := h x ((setL_mem l x).1 hx)
      simp; omega
    rw [hf, e]
  · obtain ⟨a, b⟩ := s
    simp only at e h1 h2 h3
    subst e
    obtain ⟨k, hk, e⟩ := List.getElem_of_mem ((setL_mem l a).2 h1)
    have hr := setL_ris l
    have hf := ris_find (n := n) hr hk (by omega) fun i hi => by
      have h4 := List.pairwise_iff_getElem.1 hr i k (by omega) hk hi
      have h5 := h3 _ ((setL_mem l _).1 (List.getElem_mem (show i < (setL l).length by omega)))
      omega
    rw [hf, e]
theorem abv_fold (l : List Int) (n : Int) : l.foldl (abS n) (0, false) = abvL l n := (AbI.fold l [] (0, false) (.inl ⟨rfl, fun _ h => by cases h⟩)).is
/-- those that are wanted -/
def pkS (p : Int → Bool) (t : List Int) (x : Int) : List Int := if p x then t ++ [x] else t
theorem pk_fold (p : Int → Bool) : ∀ (l t : List Int), l.foldl (pkS p) t = t ++ l.filter p
  | [], t => by simp
  | x :: l, t => by
    have := pk_fold p l (pkS p t x)
    rw [List.foldl_cons, this]
    unfold pkS
    cases h : p x <;> simp [h]
theorem pick_pos (a b : List Int) : (setL a).filter (inL b) = andL a b := by
  unfold andL pickL
  congr 1
  funext x
  cases inL b x <;> rfl
theorem pick_neg (a b : List Int) : ((setL a).filter fun x => !inL b x) = lessL a b := by
  unfold lessL pickL
  congr 1
  funext x
  cases inL b x <;> rfl
theorem inL_set (b : List Int) (x : Int) : inL (setL b) x = inL b x := by
  unfold inL
  exact decide_eq_decide.2 (setL_mem b x)
theorem or_cat (a b : List Int) : setL ([a, b].flatten) = orL a b := by
  unfold orL
  simp
theorem set_sort (l : List Int) : Lib.compact (l.mergeSort fun x y => decide (x ≤ y)) = setL l := by
  refine rise_ext (compact_rise (sorted_ms l)) (setL_ris l) fun m => ?_
  rw [compact_mem, List.mem_mergeSort, setL_mem]
end Go.Proofs.Ytjmgokjljmmmgaa
/- Stage 17's program: some: a function that is handed on is asked one number of a list behind the other. -/
namespace Go.Proofs.Ytjmgokjljmmmgaa
open Go.RowKit

/-- what a handed function keeps: s, in the blocks F -/
structure KeepJ {σ : Type} (J : σ → (Nat → Prop) → World → Prop) : Prop where
  lt : ∀ {s F w}, J s F w → ∀ k, F k → k < w.heap.size
  out : ∀ {s F w w'}, J s F w → w.heap.size ≤ w'.heap.size → (∀ k, F k → w'.heap[k]? = w.heap[k]?) → J s F w'
theorem KeepJ.kept {σ : Type} {J : σ → (Nat → Prop) → World → Prop} (T : KeepJ J) {s : σ} {F : Nat → Prop} {w w' : World} (h : J s F w) (hb : Below w.heap.size w w') : J s F w' := T.out h hb.size fun k hk => hb.block k (T.lt h k hk)

set_option maxHeartbeats 1000000 in
theorem iSome_any {σ : Type} {J : σ → (Nat → Prop) → World → Prop} (f : σ → Int → σ × Bool) (g : FuncId) (q : Value) (eg : ∀ args w, (callFunc g args).run Try.prog w = .ok (.enter g args) w)
    (va : Value) (l : List Int) (w : World) (hl : IntsAt w va l) (hlen : l.length ≤ 1000000) (s0 : σ) (F0 : Nat → Prop) (hF : OffV F0 va l.length) (hJ : J s0 F0 w) (R : Nat → σ → Prop) (hR0 : R 0 s0) (hRs : ∀ k s x, R k s → R (k + 1) (f s x).1)
    (hT : ∀ s F w' x k, x ∈ l → k < l.length → R k s → J s F w' → Only F0 w w' → Calls Try.prog g #[.int .i64 x, q] w' fun e w'' => e = .returned (.bool (f s x).2) ∧ ∃ F', J (f s x).1 F' w'' ∧ Mv F F' w' w'') :
    Calls Try.prog 50 #[va, .func (.func g) #[] #[q]] w fun e w' => e = .returned (.bool (runS f s0 l).2) ∧ ∃ F', J (runS f s0 l).1 F' w' ∧ Mv F0 F' w w' := by
  obtain ⟨r, hr⟩ : ∃ r, runS f s0 l = r := ⟨_, rfl⟩
  rw [hr]
  have HR := Lib.hid hr
  have HT := Lib.hid hT
  have HRS := Lib.hid hRs
  have HR0 := Lib.hid hR0
  have HJ := Lib.hid hJ
  have HF := Lib.hid hF
  have HL := Lib.hid hl
  have HLE := Lib.hid hlen
  obtain ⟨a, c, rfl⟩ := hl.form
  clear hr hT hJ hF hl hRs hR0
  go_enter Try.func50, Try.ntmps50
  go_wp2
  refine wp_scope_goto 0 (fun n a' w' => ∃ (j : Nat) (z : Int) (s : σ) (F : Nat → Prop), n = l.length - j ∧ z = j ∧ j ≤ l.length ∧ runS f s (l.drop j) = r ∧ R j s ∧ J s F w' ∧ Mv F0 F w w' ∧ ∃ u2 u3 u6 u7 u8 u9 u10 u11 u12 u13 u14 u15 u16 u17, a' = { tmps := #[.slice a l.length c, .func (.func g) #[] #[q], u2, u3, .bool false, .int .i64 z, u6, u7, u8, u9, u10, u11, u12, u13, u14, u15, u16, u17], defers := [] }) rfl rfl ?_ ?_
  · rintro n a' w' ⟨j, _, s, F, rfl, rfl, hj, hrun, hrk, hj2, hmv, u2, u3, u6, u7, u8, u9, u10, u11, u12, u13, u14, u15, u16, u17, rfl⟩ K hK
    have HK := Lib.hid hK
    have HJ2 := Lib.hid hj2
    have HM := Lib.hid hmv
    have HRU := Lib.hid hrun
    have HRK := Lib.hid hrk
    clear hK hj2 hmv hrun hrk
    by_cases hlt : j < l.length
    · have hrow := (HL.out.rows.only HM.out.only HF.out).ints
      obtain ⟨gb, o, cc, e, hlc, _, p0⟩ := hrow.spot j hlt
      cases e
      have hx := HT.out s F w' l[j] j (List.getElem_mem hlt) hlt HRK.out HJ2.out HM.out.only
      have hrn := HRS.out j s l[j] HRK.out
      have hno := runS_no f s l j hlt
      have hyes := runS_yes f s l j hlt
      generalize l[j] = x at *
      obtain ⟨s', b, hsb⟩ : ∃ s' b, f s x = (s', b) := ⟨_, _, rfl⟩
      rw [hsb] at hx hno hyes hrn
      have HRN := Lib.hid hrn
      have HX := Lib.hid hx
      have HN := Lib.hid hno
      have HY := Lib.hid hyes
      have j0 : (0 : Int) ≤ (j : Int) := by omega
      have j1 : (j : Int) < (l.length : Int) := by omega
      clear hx hno hyes hsb hrow hrn
      cases b with
      | false =>
        go_wp2_with (go_at_fn g; (with_reducible refine HX.out.mono ?_); rintro e w1 ⟨rfl, F', hj1, hm1⟩; have HJ3 := Lib.hid hj1; have HM3 := Lib.hid hm1; clear hj1 hm1)
        go_step3
        exact ⟨rfl, HK.out (l.length - (j + 1)) _ _ (by omega) ⟨j + 1, _, s', F', rfl, by omega, by omega, (HN.out trivial).symm.trans HRU.out, HRN.out, HJ3.out, HM.out.trans HM3.out, _, _, _, _, _, _, _, _, _, _, _, _, _, _,  rfl⟩⟩
      | true =>
        go_wp2_with (go_at_fn g; (with_reducible refine HX.out.mono ?_); rintro e w1 ⟨rfl, F', hj1, hm1⟩; have HJ3 := Lib.hid hj1; have HM3 := Lib.hid hm1; clear hj1 hm1)
        simp only [Exit.jump]
        go_ret
        have hrr := (HY.out trivial).symm.trans HRU.out
        rw [← hrr]
        exact ⟨rfl, F', HJ3.out, HM.out.trans HM3.out⟩
    · have e : j = l.length := by omega
      subst e
      have hrr := HRU.out
      rw [runS_end] at hrr
      have HRR := Lib.hid hrr
      clear hrr hlt
      go_wp2
      simp only [Exit.jump]
      go_ret
      rw [← HRR.out]
      exact ⟨rfl, F, HJ2.out, HM.out⟩
  · intro K hpass
    go_wp2
    go_step3
    rename_i hback
    exact hback _ _ (hpass (l.length - 0) _ _ ⟨0, _, s0, F0, rfl, rfl, by omega, HR.out, HR0.out, HJ.out, Mv.refl _ _, _, _, _, _, _, _, _, _, _, _, _, _, _, _,  rfl⟩)
end Go.Proofs.Ytjmgokjljmmmgaa
/- Stage 17's program: each: a function that is handed on is told one number of a list behind the other. -/
namespace Go.Proofs.Ytjmgokjljmmmgaa
open Go.RowKit

/-- what is told, and the box b in which the function (tv) lies that is told -/
def EaJ {σ : Type} (J : σ → (Nat → Prop) → World → Prop) (b : Nat) (tv : Value) (s : σ) (F : Nat → Prop) (w : World) : Prop := ∃ F1, J s F1 w ∧ ¬ F1 b ∧ (∀ k, F k ↔ F1 k ∨ k = b) ∧ Blk w b [tv]

end Go.Proofs.Ytjmgokjljmmmgaa
