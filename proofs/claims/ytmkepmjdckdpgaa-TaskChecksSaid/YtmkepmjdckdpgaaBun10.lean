/- Texts of this proof, joined: TkRef; TkA; PlanA; PlanB; PlanC. -/
import Derived.Test.YtmkepmjdckdpgaaBun9
/- Stage 22: the document's answers. -/
namespace Go.Proofs.Ytmkepmjdckdpgaa
open Go.RowKit

theorem refID22_any (n : Int) (w : World) : Calls Try.prog 27 #[.int .i64 n] w fun e w' => e = .returned (.bool (inB n 1 999)) ∧ w = w' := by
  have h : inB n 1 999 = (decide (1 ≤ n) && decide (n ≤ 999)) := by unfold inB; simp
  by_cases h1 : 1 ≤ n
  · by_cases h2 : n ≤ 999
    all_goals
      have H := Lib.hid (show inB n 1 999 = decide (n ≤ 999) by rw [h, decide_eq_true h1, Bool.true_and])
      clear h
      go_enter Try.func27, Try.ntmps27
      go_wp2
      go_ret
      exact ⟨ret_b (by rw [H.out]; simp [*]), rfl⟩
  · have H := Lib.hid (show inB n 1 999 = false by rw [h, decide_eq_false h1, Bool.false_and])
    clear h
    go_enter Try.func27, Try.ntmps27
    go_wp2
    go_ret
    exact ⟨ret_b H.out.symm, rfl⟩
theorem refWithin22_any (n a b : Int) (w : World) : Calls Try.prog 32 #[.int .i64 n, .int .i64 a, .int .i64 b] w fun e w' => e = .returned (.bool (inB n a b)) ∧ w = w' := by
  have h : inB n a b = (decide (a ≤ n) && decide (n ≤ b)) := by unfold inB; simp
  by_cases h1 : a ≤ n
  · by_cases h2 : n ≤ b
    all_goals
      have H := Lib.hid (show inB n a b = decide (n ≤ b) by rw [h, decide_eq_true h1, Bool.true_and])
      clear h
      go_enter Try.func32, Try.ntmps32
      go_wp2
      go_ret
      exact ⟨ret_b (by rw [H.out]; simp [*]), rfl⟩
  · have H := Lib.hid (show inB n a b = false by rw [h, decide_eq_false h1, Bool.false_and])
    clear h
    go_enter Try.func32, Try.ntmps32
    go_wp2
    go_ret
    exact ⟨ret_b H.out.symm, rfl⟩

/-- a spec's box, a rules' box -/
theorem boxS (w : World) (id prio sk ge fx fy tx ty : Int) (v : Value) : Blk (w.alloc (.cells #[.int .i64 id, .int .i64 prio, .int .u64 sk, .int .u64 ge, .int .i64 fx, .int .i64 fy, .int .i64 tx, .int .i64 ty, v] 27)) w.heap.size [.int .i64 id, .int .i64 prio, .int .u64 sk, .int .u64 ge, .int .i64 fx, .int .i64 fy, .int .i64 tx, .int .i64 ty, v] := Blk.new w _ _
theorem boxR (w : World) (a b c d e f g : Int) (v : Value) : Blk (w.alloc (.cells #[.int .i64 a, .int .i64 b, .int .i64 c, .int .i64 d, .int .i64 e, .int .i64 f, .int .i64 g, v] 30)) w.heap.size [.int .i64 a, .int .i64 b, .int .i64 c, .int .i64 d, .int .i64 e, .int .i64 f, .int .i64 g, v] := Blk.new w _ _

set_option maxHeartbeats 8000000 in
set_option maxRecDepth 100000 in
theorem refCheck22_any (x : Sp) (w : World) (ha : IntsAt w x.v x.aft) (_hl : x.aft.length ≤ 9223372036854775807) :
    Calls Try.prog 8 #[spv x] w fun e w' => e = .returned (.int .i64 (chk x)) ∧ Below w.heap.size w w' := by
  have hways := num_ways x
  have h2 := @chk_two x
  have h1 := @chk_one x
  have h0 := @chk_zero x
  obtain ⟨r, hr⟩ : ∃ r, chk x = r := ⟨_, rfl⟩
  rw [hr] at h2 h1 h0 ⊢
  generalize numS x = ns at *
  obtain ⟨id, prio, sk, ge, fx, fy, tx, ty, a, c, l⟩ := x
  dsimp only [Sp.v, spv] at *
  clear hr
  have HAL := Lib.hid ((Below.refl w.heap.size w).alloc (Nat.le_refl _) (.cells #[.int .i64 id, .int .i64 prio, .int .u64 sk, .int .u64 ge, .int .i64 fx, .int .i64 fy, .int .i64 tx, .int .i64 ty, .slice a l.length c] 27))
  have HX := Lib.hid (boxS w id prio sk ge fx fy tx ty (.slice a l.length c))
  have HI := Lib.hid (ha.below HAL.out)
  have c0 := HX.out.cell 0 rfl
  have c1 := HX.out.cell 1 rfl
  have c4 := HX.out.cell 4 rfl
  have c5 := HX.out.cell 5 rfl
  have GS1 := Lib.hid fun w => refSmall_any fx fy 1000 w (by omega) (by omega)
  have GS2 := Lib.hid fun w => refSmall_any tx ty 1000 w (by omega) (by omega)
  have GI := Lib.hid fun w => refID22_any id w
  generalize smallB fx fy 1000 = s1 at *
  generalize smallB tx ty 1000 = s2 at *
  generalize inB id 1 999 = i1 at *
  clear ha
  rcases hways with ⟨rfl, hw⟩ | ⟨rfl, rfl, p1, p2, rfl, rfl⟩
  · have e := h2 rfl
    subst e
    clear h2 h1 h0
    rcases hw with rfl | ⟨rfl, p1⟩ | ⟨rfl, p1, p2⟩ | ⟨rfl, p1, p2, rfl⟩ | ⟨rfl, p1, p2, rfl, rfl⟩
    all_goals
      go_enter Try.func8, Try.ntmps8
      go_wp2_with (first
        | (go_at_call 27; (with_reducible refine (GI.out _).mono ?_); rintro e w1 ⟨rfl, rfl⟩)
        | (go_at_call 28; (with_reducible refine (GS1.out _).mono ?_); rintro e w1 ⟨rfl, hb1⟩; replace HX := Lib.hid (HX.out.kept hb1); replace HAL := Lib.hid (HAL.out.trans (hb1.mono HAL.out.size)); clear hb1 c0 c1 c4 c5; have c6 := HX.out.cell 6 rfl; have c7 := HX.out.cell 7 rfl)
        | (go_at_call 28; (with_reducible refine (GS2.out _).mono ?_); rintro e w2 ⟨rfl, hb2⟩; replace HAL := Lib.hid (HAL.out.trans (hb2.mono HAL.out.size)); clear hb2))
      go_ret
      exact ⟨rfl, HAL.out⟩
  · have hw2 := aft_ways id l (h1 rfl) (h0 rfl)
    clear h2 h1 h0
    have GR := Lib.hid fun w h (h8 : ¬ 8 < (l.length : Int)) => refRight_any (.slice a l.length c) l w h (by omega)
    have GN := Lib.hid fun w h (h8 : ¬ 8 < (l.length : Int)) => refIn_any (.slice a l.length c) l id w h (by omega)
    obtain ⟨rt, hrt⟩ : ∃ rt, rightB l = rt := ⟨_, rfl⟩
    obtain ⟨nn, hnn⟩ : ∃ nn, inL l id = nn := ⟨_, rfl⟩
    rw [hrt] at GR hw2
    rw [hnn] at GN hw2
    clear hrt hnn
    rcases hw2 with ⟨rfl, hw2⟩ | ⟨h8, rfl, rfl, hr1, hr0⟩
    · rcases hw2 with h8 | ⟨h8, rfl⟩ | ⟨h8, rfl, rfl⟩
      all_goals
        have H8 := Lib.hid h8
        go_enter Try.func8, Try.ntmps8
        go_wp2_with (first
          | (go_at_call 27; (with_reducible refine (GI.out _).mono ?_); rintro e w1 ⟨rfl, rfl⟩)
          | (go_at_call 28; (with_reducible refine (GS1.out _).mono ?_); rintro e w1 ⟨rfl, hb1⟩; replace HX := Lib.hid (HX.out.kept hb1); replace HI := Lib.hid (HI.out.below hb1); replace HAL := Lib.hid (HAL.out.trans (hb1.mono HAL.out.size)); clear hb1 c0 c1 c4 c5; have c6 := HX.out.cell 6 rfl; have c7 := HX.out.cell 7 rfl)
          | (go_at_call 28; (with_reducible refine (GS2.out _).mono ?_); rintro e w2 ⟨rfl, hb2⟩; replace HX := Lib.hid (HX.out.kept hb2); replace HI := Lib.hid (HI.out.below hb2); replace HAL := Lib.hid (HAL.out.trans (hb2.mono HAL.out.size)); clear hb2 c6 c7; have c8 := HX.out.cell 8 rfl)
          | (go_at_call 29; (with_reducible refine (GR.out _ HI.out H8.out).mono ?_); rintro e w3 ⟨rfl, hb3⟩; replace HX := Lib.hid (HX.out.kept hb3); replace HI := Lib.hid (HI.out.below hb3); replace HAL := Lib.hid (HAL.out.trans (hb3.mono HAL.out.size)); clear hb3 c8; have c8 := HX.out.cell 8 rfl; have c0 := HX.out.cell 0 rfl)
          | (go_at_call 30; (with_reducible refine (GN.out _ HI.out H8.out).mono ?_); rintro e w4 ⟨rfl, rfl⟩))
        go_ret
        exact ⟨rfl, HAL.out⟩
    · have H8 := Lib.hid h8
      have HR1 := Lib.hid hr1
      have HR0 := Lib.hid hr0
      clear hr1 hr0
      go_enter Try.func8, Try.ntmps8
      go_wp2_with (first
        | (go_at_call 27; (with_reducible refine (GI.out _).mono ?_); rintro e w1 ⟨rfl, rfl⟩)
        | (go_at_call 28; (with_reducible refine (GS1.out _).mono ?_); rintro e w1 ⟨rfl, hb1⟩; replace HX := Lib.hid (HX.out.kept hb1); replace HI := Lib.hid (HI.out.below hb1); replace HAL := Lib.hid (HAL.out.trans (hb1.mono HAL.out.size)); clear hb1 c0 c1 c4 c5; have c6 := HX.out.cell 6 rfl; have c7 := HX.out.cell 7 rfl)
        | (go_at_call 28; (with_reducible refine (GS2.out _).mono ?_); rintro e w2 ⟨rfl, hb2⟩; replace HX := Lib.hid (HX.out.kept hb2); replace HI := Lib.hid (HI.out.below hb2); replace HAL := Lib.hid (HAL.out.trans (hb2.mono HAL.out.size)); clear hb2 c6 c7; have c8 := HX.out.cell 8 rfl)
        | (go_at_call 29; (with_reducible refine (GR.out _ HI.out H8.out).mono ?_); rintro e w3 ⟨rfl, hb3⟩; replace HX := Lib.hid (HX.out.kept hb3); replace HI := Lib.hid (HI.out.below hb3); replace HAL := Lib.hid (HAL.out.trans (hb3.mono HAL.out.size)); clear hb3 c8; have c8 := HX.out.cell 8 rfl; have c0 := HX.out.cell 0 rfl)
        | (go_at_call 30; (with_reducible refine (GN.out _ HI.out H8.out).mono ?_); rintro e w4 ⟨rfl, rfl⟩))
      go_loopw [3] (fun iv wr => ∃ k : Nat, k ≤ l.length ∧ iv = .int .i64 k ∧ idsB (l.take k) = true ∧ w3 = wr) (fun iv _ => l.length - (intOf iv).toNat)
      case atStart => exact ⟨0, by omega, rfl, rfl, rfl⟩
      case round =>
        obtain ⟨k, hk, rfl, hids, rfl⟩ := hrel
        have k2 : (k : Int) ≤ 1000 := by have := H8.out; omega
        have k0 : (0 : Int) ≤ (k : Int) := by omega
        by_cases hlt : k < l.length
        · obtain ⟨g, o, cc, e, hlc, _, p0⟩ := IntsAt.spot HI.out k hlt
          cases e
          have k1 : (k : Int) < (l.length : Int) := by omega
          have hyes := idsB_take hlt hids
          have hno := fun h => HR1.out (idsB_no hlt h)
          have HID := Lib.hid fun w => refID22_any l[k] w
          obtain ⟨b, hb⟩ : ∃ b, inB l[k] 1 999 = b := ⟨_, rfl⟩
          rw [hb] at HID hyes hno
          generalize l[k] = n at *
          cases b with
          | false =>
            have e := hno rfl
            subst e
            clear hyes hno hids hlt hb
            go_wp2_with (go_at_call 27; (with_reducible refine (HID.out _).mono ?_); rintro e w1 ⟨rfl, rfl⟩)
            go_ret
            exact ⟨rfl, HAL.out⟩
          | true =>
            have HY := Lib.hid (hyes rfl)
            clear hyes hno hids hb
            go_wp2_with (go_at_call 27; (with_reducible refine (HID.out _).mono ?_); rintro e w1 ⟨rfl, rfl⟩)
            go_roundw
            case rel => exact ⟨k + 1, by omega, by go_num, HY.out, by trivial⟩
            case measure => simp [intOf] <;> omega
        · have hke : k = l.length := by omega
          subst hke
          rw [List.take_length] at hids
          have e := HR0.out hids
          subst e
          clear hids hlt
          go_wp2
          go_ret
          exact ⟨rfl, HAL.out⟩

set_option maxHeartbeats 8000000 in
set_option maxRecDepth 100000 in
theorem refRules22_any (x : Ru) (w : World) (ha : AisAt w x.v x.ais) (hl : x.ais.length ≤ 1000) :
    Calls Try.prog 10 #[ruv x] w fun e w' => e = .returned (.int .i64 (rul x)) ∧ Below w.heap.size w w' := by
  have hways := rul_ways x
  generalize rul x = r at *
  obtain ⟨x1, x2, x3, x4, x5, x6, x7, a, c, l⟩ := x
  dsimp only [Ru.v, ruv] at *
  have HAL := Lib.hid ((Below.refl w.heap.size w).alloc (Nat.le_refl _) (.cells #[.int .i64 x1, .int .i64 x2, .int .i64 x3, .int .i64 x4, .int .i64 x5, .int .i64 x6, .int .i64 x7, .slice a l.length c] 30))
  have HX := Lib.hid (boxR w x1 x2 x3 x4 x5 x6 x7 (.slice a l.length c))
  have HI := Lib.hid (ha.kept HAL.out)
  have c0 := HX.out.cell 0 rfl
  have c1 := HX.out.cell 1 rfl
  have c2 := HX.out.cell 2 rfl
  have c3 := HX.out.cell 3 rfl
  have c4 := HX.out.cell 4 rfl
  have c5 := HX.out.cell 5 rfl
  have c6 := HX.out.cell 6 rfl
  have c7 := HX.out.cell 7 rfl
  have G1 := Lib.hid fun w => refWithin22_any x1 1 64 w
  have G2 := Lib.hid fun w => refWithin22_any x2 1 16 w
  have G3 := Lib.hid fun w => refWithin22_any x3 1 16 w
  have G4 := Lib.hid fun w => refWithin22_any x4 1 1000 w
  have G5 := Lib.hid fun w => refWithin22_any x5 1 64 w
  have G6 := Lib.hid fun w => refWithin22_any x6 0 1048576 w
  have G7 := Lib.hid fun w => refWithin22_any x7 0 2147483647 w
  have GR := Lib.hid fun w h => refPRight_any (.slice a l.length c) l w h (by omega)
  generalize inB x1 1 64 = b1 at *
  generalize inB x2 1 16 = b2 at *
  generalize inB x3 1 16 = b3 at *
  generalize inB x4 1 1000 = b4 at *
  generalize inB x5 1 64 = b5 at *
  generalize inB x6 0 1048576 = b6 at *
  generalize inB x7 0 2147483647 = b7 at *
  generalize rightP l = rp at *
  clear ha
  rcases hways with ⟨rfl, rfl⟩ | ⟨rfl, rfl, rfl⟩ | ⟨rfl, rfl, rfl, rfl⟩ | ⟨rfl, rfl, rfl, rfl, rfl⟩ | ⟨rfl, rfl, rfl, rfl, rfl, rfl⟩ | ⟨rfl, rfl, rfl, rfl, rfl, rfl, rfl⟩ | ⟨rfl, rfl, rfl, rfl, rfl, rfl, rfl, rfl⟩ | ⟨rfl, rfl, rfl, rfl, rfl, rfl, rfl, rfl, rfl⟩ | ⟨rfl, rfl, rfl, rfl, rfl, rfl, rfl, rfl, rfl⟩
  all_goals
    go_enter Try.func10, Try.ntmps10
    go_wp2_with (first
      | (go_at_call 32; (with_reducible refine (G1.out _).mono ?_); rintro e w1 ⟨rfl, rfl⟩)
      | (go_at_call 32; (with_reducible refine (G2.out _).mono ?_); rintro e w1 ⟨rfl, rfl⟩)
      | (go_at_call 32; (with_reducible refine (G3.out _).mono ?_); rintro e w1 ⟨rfl, rfl⟩)
      | (go_at_call 32; (with_reducible refine (G4.out _).mono ?_); rintro e w1 ⟨rfl, rfl⟩)
      | (go_at_call 32; (with_reducible refine (G5.out _).mono ?_); rintro e w1 ⟨rfl, rfl⟩)
      | (go_at_call 32; (with_reducible refine (G6.out _).mono ?_); rintro e w1 ⟨rfl, rfl⟩)
      | (go_at_call 32; (with_reducible refine (G7.out _).mono ?_); rintro e w1 ⟨rfl, rfl⟩)
      | (go_at_call 22; (with_reducible refine (GR.out _ HI.out).mono ?_); rintro e w1 ⟨rfl, hb1⟩; replace HAL := Lib.hid (HAL.out.trans (hb1.mono HAL.out.size)); clear hb1))
    go_ret
    exact ⟨rfl, HAL.out⟩

set_option maxHeartbeats 4000000 in
set_option maxRecDepth 100000 in
theorem refWant22_any (r : Ru) (x : Sp) (w : World) (ha : AisAt w r.v r.ais) (hl : r.ais.length ≤ 1000) :
    Calls Try.prog 14 #[ruv r, spv x] w fun e w' => ∃ v, e = .returned v ∧ IntsAt w' v (wantL r x) ∧ Below w.heap.size w w' := by
  unfold wantL
  obtain ⟨x1, x2, x3, x4, x5, x6, x7, a, c, l⟩ := r
  obtain ⟨id, prio, sk, ge, fx, fy, tx, ty, a', c', l'⟩ := x
  dsimp only [Ru.v, ruv, Sp.v, spv] at *
  have hal1 := (Below.refl w.heap.size w).alloc (Nat.le_refl _) (.cells #[.int .i64 x1, .int .i64 x2, .int .i64 x3, .int .i64 x4, .int .i64 x5, .int .i64 x6, .int .i64 x7, .slice a l.length c] 30)
  have hR := boxR w x1 x2 x3 x4 x5 x6 x7 (.slice a l.length c)
  have hI := ha.kept hal1
  obtain ⟨W1, hW1⟩ : ∃ W1, w.alloc (.cells #[.int .i64 x1, .int .i64 x2, .int .i64 x3, .int .i64 x4, .int .i64 x5, .int .i64 x6, .int .i64 x7, .slice a l.length c] 30) = W1 := ⟨_, rfl⟩
  have hsz : W1.heap.size = w.heap.size + 1 := by rw [← hW1]; simp
  rw [hW1] at hal1 hR hI
  have hal2 := (Below.refl W1.heap.size W1).alloc (Nat.le_refl _) (.cells #[.int .i64 id, .int .i64 prio, .int .u64 sk, .int .u64 ge, .int .i64 fx, .int .i64 fy, .int .i64 tx, .int .i64 ty, .slice a' l'.length c'] 27)
  have hS := boxS W1 id prio sk ge fx fy tx ty (.slice a' l'.length c')
  rw [hsz] at hS
  have c7 := (hR.kept hal2).cell 7 rfl
  have d4 := hS.cell 4 rfl
  have d5 := hS.cell 5 rfl
  have d6 := hS.cell 6 rfl
  have d7 := hS.cell 7 rfl
  have HI := Lib.hid (hI.kept hal2)
  have HB := Lib.hid (hal1.trans (hal2.mono hal1.size))
  rw [← hW1] at c7 d4 d5 d6 d7 HI HB
  have G := Lib.hid fun w h => refCross_any (.slice a l.length c) l fx fy tx ty 0 w h (by omega)
  generalize crs7 (hitB (rway (wd fx, wd fy) (wd tx, wd ty) 0)) l = L at *
  clear hal1 hR hI hal2 hS hsz hW1 ha
  go_enter Try.func14, Try.ntmps14
  go_wp2_with (go_at_call 35; (with_reducible refine (G.out _ HI.out).mono ?_); rintro e w1 ⟨v, rfl, hv, hb1⟩; have HV := Lib.hid hv; have HB1 := Lib.hid (HB.out.trans (hb1.mono HB.out.size)); clear hv hb1)
  go_ret
  exact ⟨v, rfl, HV.out, HB1.out⟩

set_option maxHeartbeats 4000000 in
set_option maxRecDepth 100000 in
theorem refFits22_any (x : Sp) (s g a b : Nat) (w : World) (hs : x.sk = (s : Int)) (hg : x.ge = (g : Int)) (hs2 : s < 2 ^ 64) (hg2 : g < 2 ^ 64) (ha : a < 2 ^ 64) (hb : b < 2 ^ 64) :
    Calls Try.prog 16 #[spv x, .int .u64 (a : Int), .int .u64 (b : Int)] w fun e w' => e = .returned (.bool (hasK a s 64 && hasK b g 64)) ∧ Below w.heap.size w w' := by
  have G1 := Lib.hid fun w => refHas_any a s w ha hs2
  have G2 := Lib.hid fun w => refHas_any b g w hb hg2
  obtain ⟨id, prio, sk, ge, fx, fy, tx, ty, va, c, l⟩ := x
  dsimp only [Sp.v, spv] at *
  subst hs hg
  have hS := boxS w id prio s g fx fy tx ty (.slice va l.length c)
  have d2 := hS.cell 2 rfl
  have d3 := hS.cell 3 rfl
  have HB := Lib.hid ((Below.refl w.heap.size w).alloc (Nat.le_refl _) (.cells #[.int .i64 id, .int .i64 prio, .int .u64 s, .int .u64 g, .int .i64 fx, .int .i64 fy, .int .i64 tx, .int .i64 ty, .slice va l.length c] 27))
  generalize hasK a s 64 = t1 at *
  generalize hasK b g 64 = t2 at *
  clear hS ha hb hs2 hg2
  cases t1 with
  | false =>
    go_enter Try.func16, Try.ntmps16
    go_wp2_with (go_at_call 37; (with_reducible refine (G1.out _).mono ?_); rintro e w1 ⟨rfl, rfl⟩)
    go_ret
    exact ⟨rfl, HB.out⟩
  | true =>
    go_enter Try.func16, Try.ntmps16
    go_wp2_with (first
      | (go_at_call 37; (with_reducible refine (G1.out _).mono ?_); rintro e w1 ⟨rfl, rfl⟩)
      | (go_at_call 37; (with_reducible refine (G2.out _).mono ?_); rintro e w1 ⟨rfl, rfl⟩))
    go_ret
    exact ⟨rfl, HB.out⟩
end Go.Proofs.Ytmkepmjdckdpgaa
/- Stage 22: the program's Check: bounds that are asked by a goto. -/
namespace Go.Proofs.Ytmkepmjdckdpgaa
open Go.RowKit

/-- a list of things in new memory -/
theorem rowsLit {α : Type} {cs : α → List Value} {K : Nat} (hK : ∀ x, (cs x).length = K) (w : World) (l : List α) (e : TypeId) (n : Nat) (hn : n = l.length) : RowsAt (w.alloc (.cells (flats cs l).toArray e)) K cs (.slice (some ⟨w.heap.size, 0, none⟩) n n) l := by
  subst hn
  refine ⟨_, l.length, rfl, Nat.le_refl _, fun _ => ⟨w.heap.size, 0, rfl, by simp, fun j x hj i u hu => ?_⟩⟩
  have h := flats_at hK l j x hj i u hu
  rw [World.cell?_alloc_at _ _ _ _ rfl]
  simpa using h
abbrev bdv (b : Bd) : Value := .agg #[.int .i64 b.n, .int .i64 b.lo, .int .i64 b.hi]
theorem csBd_one (x : Bd) : ∀ u ∈ csBd x, u.oneCell' = true := by
  intro u hu
  simp [csBd] at hu
  rcases hu with rfl | rfl | rfl <;> rfl
theorem info_bd : (Try.prog.info? 53).map (fun i => (i.zero, i.size, i.bytes)) = some (some (.agg #[.int .i64 0, .int .i64 0, .int .i64 0]), 3, 24) := by kernel_rfl

set_option maxHeartbeats 1000000 in
theorem tOfID_any (n : Int) (w : World) : Calls Try.prog 24 #[.int .i64 n] w fun e w' => e = .returned (.agg #[.int .i64 n, .int .i64 1, .int .i64 999]) ∧ Below w.heap.size w w' := by
  have hX := Blk.new w [.int .i64 0, .int .i64 0, .int .i64 0] 53
  have c0 := hX.cell 0 rfl
  have c1 := hX.cell 1 rfl
  have c2 := hX.cell 2 rfl
  have z0 := hX.free 0 rfl
  have z1 := hX.free 1 rfl
  have z2 := hX.free 2 rfl
  have HB := Lib.hid ((Below.refl w.heap.size w).alloc (Nat.le_refl _) (.cells #[.int .i64 n, .int .i64 1, .int .i64 999] 53))
  clear hX
  go_enter Try.func24, Try.ntmps24
  go_wp2
  refine bodyPost_ret (v := .agg #[.int .i64 n, .int .i64 1, .int .i64 999]) ?_ rfl ⟨rfl, HB.out⟩
  simp [results, Try.results24, go_sem]
set_option maxHeartbeats 1000000 in
theorem tOfPart_any (n : Int) (w : World) : Calls Try.prog 25 #[.int .i64 n] w fun e w' => e = .returned (.agg #[.int .i64 n, .int .i64 (-1000), .int .i64 1000]) ∧ Below w.heap.size w w' := by
  have hX := Blk.new w [.int .i64 0, .int .i64 0, .int .i64 0] 53
  have c0 := hX.cell 0 rfl
  have c1 := hX.cell 1 rfl
  have c2 := hX.cell 2 rfl
  have z0 := hX.free 0 rfl
  have z1 := hX.free 1 rfl
  have z2 := hX.free 2 rfl
  have HB := Lib.hid ((Below.refl w.heap.size w).alloc (Nat.le_refl _) (.cells #[.int .i64 n, .int .i64 (-1000), .int .i64 1000] 53))
  clear hX
  go_enter Try.func25, Try.ntmps25
  go_wp2
  refine bodyPost_ret (v := .agg #[.int .i64 n, .int .i64 (-1000), .int .i64 1000]) ?_ rfl ⟨rfl, HB.out⟩
  simp [results, Try.results25, go_sem]

theorem kept_take {l : List Bd} {k : Nat} (hk : k < l.length) (h : (l.take k).all Bd.ok = true) (h2 : l[k].ok = true) : (l.take (k + 1)).all Bd.ok = true := by
  rw [List.take_succ_eq_append_getElem hk, List.all_append, h]
  simp [h2]
theorem kept_no {l : List Bd} {k : Nat} (hk : k < l.length) (h2 : l[k].ok = false) : l.all Bd.ok = false := by
  rw [List.all_eq_false]
  exact ⟨_, List.getElem_mem hk, by rw [h2]; exact Bool.false_ne_true⟩
theorem frame_of22 {A : Act} {F : (Nat → Value) → Act} (h : A = F (fun i => A.tmps.getD i undef)) : ∃ f, A = F f := ⟨_, h⟩

set_option maxHeartbeats 4000000 in
set_option maxRecDepth 100000 in
theorem tKept_any (va : Value) (l : List Bd) (w : World) (ha : RowsAt w 3 csBd va l) (hl : l.length ≤ 1000) :
    Calls Try.prog 23 #[va] w fun e w' => e = .returned (.bool (l.all Bd.ok)) ∧ Below w.heap.size w w' := by
  obtain ⟨r, hr⟩ : ∃ r, l.all Bd.ok = r := ⟨_, rfl⟩
  rw [hr]
  have HR := Lib.hid hr
  have HA := Lib.hid ha
  have HL := Lib.hid hl
  obtain ⟨a, c, rfl⟩ := RowsAt.form ha
  clear ha hr hl
  go_enter Try.func23, Try.ntmps23
  go_wp2
  refine wp_scope_goto 0 (fun n a' w' => ∃ (k : Nat) (z : Int), z = k ∧ n = l.length - k ∧ k ≤ l.length ∧ (l.take k).all Bd.ok = true ∧ Below w.heap.size w w' ∧ ∃ f : Nat → Value, a' = { tmps := #[.slice a l.length c, f 1, .bool false, .int .i64 z, f 4, f 5, f 6, f 7, f 8, f 9, f 10, f 11, f 12, f 13, f 14, f 15, f 16, f 17, f 18, f 19, f 20, f 21, f 22, f 23, f 24, f 25, f 26], defers := [] }) rfl rfl ?_ ?_
  · rintro n a' w' ⟨k, _, rfl, rfl, hk, hyes, hB, f, rfl⟩ K hK
    have HK := Lib.hid hK
    have HB := Lib.hid hB
    have k0 : (0 : Int) ≤ (k : Int) := by omega
    have k2 : (k : Int) ≤ 1000 := by have := HL.out; omega
    clear hK hB
    by_cases hlt : k < l.length
    · obtain ⟨g, o, cc, e, hlc, hg, hx⟩ := RowsAt.spot (HA.out.kept HB.out) k hlt
      cases e
      have k1 : (k : Int) < (l.length : Int) := by omega
      have ky := kept_take hlt hyes
      have kn := fun h => HR.out.symm.trans (kept_no hlt h)
      obtain ⟨b, hb⟩ : ∃ b, l[k] = b := ⟨_, rfl⟩
      rw [hb] at ky kn hx
      obtain ⟨n, lo, hi⟩ := b
      have p0 := hx 0 _ rfl
      have p1 := hx 1 _ rfl
      have p2 := hx 2 _ rfl
      dsimp only at p0 p1 p2
      rw [Nat.add_zero] at p0
      have hX := Blk.new w' [.int .i64 n, .int .i64 lo, .int .i64 hi] 53
      have d0 := hX.cell 0 rfl
      have d1 := hX.cell 1 rfl
      have d2 := hX.cell 2 rfl
      have HB1 := Lib.hid (HB.out.alloc HB.out.size (.cells #[.int .i64 n, .int .i64 lo, .int .i64 hi] 53))
      have hcase : (n < lo) ∨ (¬ n < lo ∧ hi < n) ∨ (¬ n < lo ∧ ¬ hi < n) := by omega
      unfold Bd.ok at ky kn
      dsimp only at ky kn
      clear hx hX hyes hb
      rcases hcase with h1 | ⟨h1, h2⟩ | ⟨h1, h2⟩
      · have e := kn (inB_no (by omega))
        subst e
        clear ky kn
        go_wp2
        simp only [Exit.jump]
        go_ret
        exact ⟨rfl, HB1.out⟩
      · have e := kn (inB_no (by omega))
        subst e
        clear ky kn
        go_wp2
        simp only [Exit.jump]
        go_ret
        exact ⟨rfl, HB1.out⟩
      · have KY := Lib.hid (ky (inB_yes (by omega) (by omega)))
        clear ky kn
        go_wp2
        go_step3
        exact ⟨rfl, HK.out (l.length - (k + 1)) _ _ (by omega) ⟨k + 1, _, by go_num, rfl, by omega, KY.out, HB1.out, frame_of22 rfl⟩⟩
    · have e : k = l.length := by omega
      subst e
      rw [List.take_length] at hyes
      have e := HR.out.symm.trans hyes
      subst e
      clear hyes hlt
      go_wp2
      simp only [Exit.jump]
      go_ret
      exact ⟨rfl, HB.out⟩
  · intro K hpass
    go_wp2
    go_step3
    rename_i hback
    exact hback _ _ (hpass _ _ _ ⟨0, _, rfl, rfl, by omega, rfl, Below.refl _ _, frame_of22 rfl⟩)
end Go.Proofs.Ytmkepmjdckdpgaa
/- The walks of package plan: its small functions. -/
namespace Go.Proofs.Ytmkepmjdckdpgaa
open Go.RowKit

theorem pnot_any (a b c d : Int) (w : World) : Calls Try.prog 60 #[.agg #[.int .i64 a, .int .i64 b], .agg #[.int .i64 c, .int .i64 d]] w fun e w' => e = .returned (.bool (decide (a ≤ c ∧ b ≤ d))) ∧ Below w.heap.size w w' := by
  have hB : Below w.heap.size w ((w.alloc (.cells #[.int .i64 a, .int .i64 b] 24)).alloc (.cells #[.int .i64 c, .int .i64 d] 24)) := ((Below.refl _ _).alloc (Nat.le_refl _) _).alloc (by simp) _
  by_cases h1 : a ≤ c
  · by_cases h2 : b ≤ d
    · rw [decide_eq_true ⟨h1, h2⟩]
      go_enter Try.func60, Try.ntmps60
      go_wp2
      go_ret
      exact ⟨rfl, hB⟩
    · rw [decide_eq_false fun h => h2 h.2]
      go_enter Try.func60, Try.ntmps60
      go_wp2
      go_ret
      exact ⟨rfl, hB⟩
  · rw [decide_eq_false fun h => h1 h.1]
    go_enter Try.func60, Try.ntmps60
    go_wp2
    go_ret
    exact ⟨rfl, hB⟩

set_option maxHeartbeats 1000000 in
theorem pblock_any (a b c d : Int) (w : World) : Calls Try.prog 44 #[.agg #[.int .i64 a, .int .i64 b], .agg #[.int .i64 c, .int .i64 d]] w fun e w' => e = .returned (av 0 (min a c) (min b d) (max a c) (max b d)) ∧ Below w.heap.size w w' := by
  obtain ⟨m1, h1⟩ : ∃ m, min a c = m := ⟨_, rfl⟩
  obtain ⟨m2, h2⟩ : ∃ m, min b d = m := ⟨_, rfl⟩
  obtain ⟨m3, h3⟩ : ∃ m, max a c = m := ⟨_, rfl⟩
  obtain ⟨m4, h4⟩ : ∃ m, max b d = m := ⟨_, rfl⟩
  rw [h1, h2, h3, h4]
  have hB : Below w.heap.size w (((w.alloc (.cells #[.int .i64 a, .int .i64 b] 24)).alloc (.cells #[.int .i64 c, .int .i64 d] 24)).alloc (.cells #[.int .i64 0, .int .i64 m1, .int .i64 m2, .int .i64 m3, .int .i64 m4] 45)) := (((Below.refl _ _).alloc (Nat.le_refl _) _).alloc (by simp) _).alloc (by simp; omega) _
  go_enter Try.func44, Try.ntmps44
  go_wp2
  refine bodyPost_ret (v := av 0 m1 m2 m3 m4) ?_ rfl ⟨rfl, hB⟩
  simp [results, Try.results44, go_sem]

theorem meet_is (a b : Ais) : meetB a b = decide (max a.lx b.lx ≤ min a.hx b.hx ∧ max a.ly b.ly ≤ min a.hy b.hy) := by
  unfold meetB hasB
  rw [← Bool.decide_and]
  apply decide_eq_decide.2
  omega

set_option maxHeartbeats 1000000 in
set_option maxRecDepth 100000 in
theorem pMeet_any (a b : Ais) (w : World) :
    Calls Try.prog 43 #[av a.id a.lx a.ly a.hx a.hy, av b.id b.lx b.ly b.hx b.hy] w fun e w' => e = .returned (.bool (meetB a b)) ∧ Below w.heap.size w w' := by
  rw [meet_is]
  obtain ⟨i, a1, a2, a3, a4⟩ := a
  obtain ⟨j, b1, b2, b3, b4⟩ := b
  simp only
  obtain ⟨m1, h1⟩ : ∃ m, max a1 b1 = m := ⟨_, rfl⟩
  obtain ⟨m2, h2⟩ : ∃ m, max a2 b2 = m := ⟨_, rfl⟩
  obtain ⟨m3, h3⟩ : ∃ m, min a3 b3 = m := ⟨_, rfl⟩
  obtain ⟨m4, h4⟩ : ∃ m, min a4 b4 = m := ⟨_, rfl⟩
  rw [h1, h2, h3, h4]
  have hn := fun w => pnot_any m1 m2 m3 m4 w
  generalize decide (m1 ≤ m3 ∧ m2 ≤ m4) = t at *
  have HN := Lib.hid hn
  clear hn
  have hB : Below w.heap.size w ((((w.alloc (.cells #[.int .i64 i, .int .i64 a1, .int .i64 a2, .int .i64 a3, .int .i64 a4] 45)).alloc (.cells #[.int .i64 j, .int .i64 b1, .int .i64 b2, .int .i64 b3, .int .i64 b4] 45)).alloc (.cells #[.int .i64 m1, .int .i64 m2] 24)).alloc (.cells #[.int .i64 m3, .int .i64 m4] 24)) := ((((Below.refl _ _).alloc (Nat.le_refl _) _).alloc (by simp) _).alloc (by simp; omega) _).alloc (by simp; omega) _
  go_enter Try.func43, Try.ntmps43
  go_wp2_with (go_at_call 60; with_reducible refine (HN.out _).mono ?_; rintro e w1 ⟨rfl, hb⟩; replace hB := hB.trans (hb.mono hB.size); clear hb)
  go_ret
  exact ⟨rfl, hB⟩

/-- both corners within the floor, in their order -/
def floorB (a : Ais) : Bool := decide (a.lx ≤ a.hx ∧ a.ly ≤ a.hy) && smallB a.lx a.ly 1000 && smallB a.hx a.hy 1000
theorem big_small (x y : Int) : decide (max (sz x) (sz y) ≤ 1000) = smallB x y 1000 := by
  unfold smallB sz fx
  apply decide_eq_decide.2
  omega

set_option maxHeartbeats 1000000 in
set_option maxRecDepth 100000 in
theorem pfloor_any (a : Ais) (w : World) :
    Calls Try.prog 48 #[av a.id a.lx a.ly a.hx a.hy] w fun e w' => e = .returned (.bool (floorB a)) ∧ Below w.heap.size w w' := by
  obtain ⟨i, a1, a2, b1, b2⟩ := a
  have e : floorB ⟨i, a1, a2, b1, b2⟩ = (decide (a1 ≤ b1 ∧ a2 ≤ b2) && smallB a1 a2 1000 && smallB b1 b2 1000) := rfl
  rw [e]
  simp only
  have hn := fun w => pnot_any a1 a2 b1 b2 w
  have h1 := fun w => big_any a1 a2 w
  have h2 := fun w => big_any b1 b2 w
  have e1 := big_small a1 a2
  have e2 := big_small b1 b2
  rw [← e1, ← e2]
  generalize decide (a1 ≤ b1 ∧ a2 ≤ b2) = t at *
  generalize max (sz a1) (sz a2) = m1 at *
  generalize max (sz b1) (sz b2) = m2 at *
  clear e e1 e2
  have HN := Lib.hid hn
  have H1 := Lib.hid h1
  have H2 := Lib.hid h2
  clear hn h1 h2
  have hB : Below w.heap.size w (w.alloc (.cells #[.int .i64 i, .int .i64 a1, .int .i64 a2, .int .i64 b1, .int .i64 b2] 45)) := (Below.refl _ _).alloc (Nat.le_refl _) _
  have k0 : ∀ w1, Below (w.heap.size + 1) (w.alloc (.cells #[.int .i64 i, .int .i64 a1, .int .i64 a2, .int .i64 b1, .int .i64 b2] 45)) w1 →
      w1.cell? ⟨w.heap.size, 1, none⟩ = some (.int .i64 a1) ∧ w1.cell? ⟨w.heap.size, 2, none⟩ = some (.int .i64 a2) ∧ w1.cell? ⟨w.heap.size, 3, none⟩ = some (.int .i64 b1) ∧ w1.cell? ⟨w.heap.size, 4, none⟩ = some (.int .i64 b2) := by
    intro w1 hb
    refine ⟨?_, ?_, ?_, ?_⟩ <;> rw [hb.cell (by simp)] <;> go_simp
  have HK := Lib.hid k0
  clear k0
  have hcase : t = false ∨ (t = true ∧ ¬ m1 ≤ 1000) ∨ (t = true ∧ m1 ≤ 1000 ∧ ¬ m2 ≤ 1000) ∨ (t = true ∧ m1 ≤ 1000 ∧ m2 ≤ 1000) := by
    cases t <;> by_cases h1 : m1 ≤ 1000 <;> by_cases h2 : m2 ≤ 1000 <;> simp [h1, h2]
  rcases hcase with rfl | ⟨rfl, k1⟩ | ⟨rfl, k1, k2⟩ | ⟨rfl, k1, k2⟩
  all_goals
    go_enter Try.func48, Try.ntmps48
    go_wp2_with (first
      | (go_at_call 60; (with_reducible refine (HN.out _).mono ?_); rintro e w1 ⟨rfl, hb⟩; obtain ⟨c1, c2, c3, c4⟩ := HK.out _ (hb.mono (by simp)); replace hB := hB.trans (hb.mono hB.size); have HB1 := Lib.hid (hb.mono (show w.heap.size + 1 ≤ _ by simp)); have hz1 := hb.size; clear hb HN)
      | (go_at_call 64; (with_reducible refine (H1.out _).mono ?_); rintro e w2 ⟨rfl, hb⟩; clear c1 c2 c3 c4; obtain ⟨c1, c2, c3, c4⟩ := HK.out _ (HB1.out.trans (hb.mono (by simp at hz1; omega))); replace hB := hB.trans (hb.mono hB.size); clear hb H1)
      | (go_at_call 64; (with_reducible refine (H2.out _).mono ?_); rintro e w3 ⟨rfl, hb⟩; replace hB := hB.trans (hb.mono hB.size); clear hb H2))
    go_ret
    exact ⟨ret_b (by simp <;> (try intros) <;> omega), hB⟩

/-! ### Points as numbers -/
theorem psatClip_any (n : Int) (w : World) : Calls Try.prog 72 #[.int .i64 n, .int .i64 (-1000), .int .i64 1000] w fun e w' => e = .returned (.int .i64 (wd n)) ∧ w = w' := by
  unfold wd
  by_cases h : n < -1000
  · go_enter Try.func72, Try.ntmps72
    go_wp2
    go_ret
    exact ⟨ret_i (by omega), rfl⟩
  · go_enter Try.func72, Try.ntmps72
    go_wp2
    go_ret
    exact ⟨ret_i (by omega), rfl⟩
theorem pnear_any (n : Int) (w : World) : Calls Try.prog 65 #[.int .i64 n] w fun e w' => e = .returned (.float .f64 (fl (wd n))) ∧ w = w' := by
  have h := fun w => psatClip_any n w
  generalize wd n = m at *
  have H := Lib.hid h
  clear h
  go_enter Try.func65, Try.ntmps65
  go_wp2_with (go_at_call 72; (with_reducible refine (H.out _).mono ?_); rintro e w1 ⟨rfl, rfl⟩)
  go_ret
  exact ⟨rfl, rfl⟩

set_option maxRecDepth 100000 in
theorem pnumber_any (x y : Int) (w : World) : Calls Try.prog 51 #[.agg #[.int .i64 x, .int .i64 y]] w fun e w' => e = .returned (.complex .f64 (fl (wd x)) (fl (wd y))) ∧ Below w.heap.size w w' := by
  have h1 := fun w => pnear_any x w
  have h2 := fun w => pnear_any y w
  generalize fl (wd x) = a at *
  generalize fl (wd y) = b at *
  have H1 := Lib.hid h1
  have H2 := Lib.hid h2
  clear h1 h2
  have C0 := Cell2.new w (.int .i64 x) (.int .i64 y) 24
  have hB : Below w.heap.size w (w.alloc (.cells #[.int .i64 x, .int .i64 y] 24)) := (Below.refl _ _).alloc (Nat.le_refl _) _
  go_enter Try.func51, Try.ntmps51
  go_wp2
  refine wp_region_calmT 6 (by kernel_rfl) (by simp) (by kernel_rfl) fun M => ?_
  simp only [List.take_succ_cons, List.take_zero, List.drop_succ_cons, List.drop_zero]
  have e0 := fun n : In M.w => n.cell (M.cell C0.c0)
  have e1 := fun n : In M.w => n.cell (M.cell C0.c1)
  repeat (go_big_quiet_step (first
    | (go_at_call 65; with_reducible exact In.call_same (H1.out _))
    | (go_at_call 65; with_reducible exact In.call_same (H2.out _))))
  refine wpQuiet_nil ?_
  intro w2 hb
  replace hB := hB.trans (hb.mono hB.size)
  clear hb e0 e1 M C0
  go_wp2
  go_ret
  exact ⟨rfl, hB⟩

theorem ppoint_any (p q : Nat) (x y : Int) (hp : Fl p x) (hq : Fl q y) (hx : x.natAbs < 2 ^ 53) (hy : y.natAbs < 2 ^ 53) (w : World) :
    Calls Try.prog 53 #[.complex .f64 p q] w fun e w' => e = .returned (.agg #[.int .i64 x, .int .i64 y]) ∧ Below w.heap.size w w' := by
  have k1 : ∀ w, (convert 87 3 (.float .f64 p)).run Try.prog w = .ok (.int .i64 x) w := fun w => run_convert_float_int w _ _ _ _ _ _ (by rw [Try.underlying87]; rfl) Try.underlying3 (toInt_whole hp (i64_in' hx).1 (i64_in' hx).2)
  have k2 : ∀ w, (convert 87 3 (.float .f64 q)).run Try.prog w = .ok (.int .i64 y) w := fun w => run_convert_float_int w _ _ _ _ _ _ (by rw [Try.underlying87]; rfl) Try.underlying3 (toInt_whole hq (i64_in' hy).1 (i64_in' hy).2)
  go_enter Try.func53, Try.ntmps53
  go_wp2
  refine bodyPost_ret (v := .agg #[.int .i64 x, .int .i64 y]) ?_ rfl ⟨rfl, (Below.refl _ _).alloc (Nat.le_refl _) _⟩
  simp [results, Try.results53, go_sem]

/-- where a way turns -/
def trn (h : Int) (a b : Int × Int) : Int × Int := if h = 1 then (a.1, b.2) else (b.1, a.2)
theorem pbetween_any (a b c d : Nat) (h : Int) (w : World) : Calls Try.prog 52 #[.complex .f64 a b, .complex .f64 c d, .int .i64 h] w fun e w' => e = .returned (.complex .f64 (if h = 1 then a else c) (if h = 1 then d else b)) ∧ w = w' := by
  by_cases hh : h = 1
  · simp only [if_pos hh]
    subst hh
    go_enter Try.func52, Try.ntmps52
    go_wp2
    go_ret
    exact ⟨rfl, rfl⟩
  · simp only [if_neg hh]
    have hb : (h == 1) = false := by simpa using hh
    go_enter Try.func52, Try.ntmps52
    go_wp2
    go_ret
    exact ⟨rfl, rfl⟩

/-! ### The sign -/
theorem pord_lt {a b : Nat} {x y : Int} (ha : Fl a x) (hb : Fl b y) : (FloatKind.f64.format.order a b == some .lt) = decide (x < y) := by
  rw [order_whole ha hb]
  rcases Int.lt_trichotomy x y with h | h | h
  · rw [show compare x y = .lt from Int.compare_eq_lt.2 h, decide_eq_true h]; rfl
  · rw [show compare x y = .eq from Int.compare_eq_eq.2 h, decide_eq_false (by omega)]; rfl
  · rw [show compare x y = .gt from Int.compare_eq_gt.2 h, decide_eq_false (by omega)]; rfl
theorem pord_gt {a b : Nat} {x y : Int} (ha : Fl a x) (hb : Fl b y) : (FloatKind.f64.format.order a b == some .gt) = decide (y < x) := by
  rw [order_whole ha hb]
  rcases Int.lt_trichotomy x y with h | h | h
  · rw [show compare x y = .lt from Int.compare_eq_lt.2 h, decide_eq_false (by omega)]; rfl
  · rw [show compare x y = .eq from Int.compare_eq_eq.2 h, decide_eq_false (by omega)]; rfl
  · rw [show compare x y = .gt from Int.compare_eq_gt.2 h, decide_eq_true h]; rfl
def sgn (x : Int) : Int := if x < 0 then -1 else if 0 < x then 1 else 0
end Go.Proofs.Ytmkepmjdckdpgaa
/- The walks of package plan: which aisle has a point, each two of a list. -/
namespace Go.Proofs.Ytmkepmjdckdpgaa
open Go.RowKit

theorem meet_pt (a : Ais) (x y : Int) : meetB a ⟨0, min x x, min y y, max x x, max y y⟩ = hasB a x y := by
  rw [meet_is]
  unfold hasB
  apply decide_eq_decide.2
  simp only
  omega

/-- a block of five cells -/
structure Cell5 (w : World) (b : Nat) (a : Ais) : Prop where
  c0 : w.cell? ⟨b, 0, none⟩ = some (.int .i64 a.id)
  c1 : w.cell? ⟨b, 1, none⟩ = some (.int .i64 a.lx)
  c2 : w.cell? ⟨b, 2, none⟩ = some (.int .i64 a.ly)
  c3 : w.cell? ⟨b, 3, none⟩ = some (.int .i64 a.hx)
  c4 : w.cell? ⟨b, 4, none⟩ = some (.int .i64 a.hy)
theorem Cell5.new (w : World) (a : Ais) (t : TypeId) : Cell5 (w.alloc (.cells #[.int .i64 a.id, .int .i64 a.lx, .int .i64 a.ly, .int .i64 a.hx, .int .i64 a.hy] t)) w.heap.size a :=
  ⟨by go_simp, by go_simp, by go_simp, by go_simp, by go_simp⟩
theorem Cell5.below {w w1 : World} {b B : Nat} {a : Ais} (h : Cell5 w b a) (hb : Below B w w1) (hB : b < B) : Cell5 w1 b a :=
  ⟨by rw [hb.cell hB]; exact h.c0, by rw [hb.cell hB]; exact h.c1, by rw [hb.cell hB]; exact h.c2, by rw [hb.cell hB]; exact h.c3, by rw [hb.cell hB]; exact h.c4⟩
theorem Cell5.kept {w w1 : World} {b : Nat} {a : Ais} (h : Cell5 w b a) (hb : Below w.heap.size w w1) : Cell5 w1 b a :=
  h.below hb (World.block_lt_of_cell? w _ h.c0)
theorem Cell5.alloc {w : World} {b : Nat} {a : Ais} (h : Cell5 w b a) (o : Obj) : Cell5 (w.alloc o) b a :=
  h.kept ((Below.refl _ _).alloc (Nat.le_refl _) _)

set_option maxHeartbeats 2000000 in
set_option maxRecDepth 100000 in
theorem pAt_any (va : Value) (l : List Ais) (x y : Int) (w : World) (ha : AisAt w va l) (hl : l.length ≤ 1000000) :
    Calls Try.prog 21 #[va, .agg #[.int .i64 x, .int .i64 y]] w fun e w' => e = .returned (.tuple #[.int .i64 (atL l x y).1, .bool (atL l x y).2]) ∧ Below w.heap.size w w' := by
  have HA := Lib.hid ha
  obtain ⟨a, c, rfl⟩ := RowsAt.form ha
  clear ha
  have hB : Below w.heap.size w (w.alloc (.cells #[.int .i64 x, .int .i64 y] 24)) := (Below.refl _ _).alloc (Nat.le_refl _) _
  have C0 := Cell2.new w (.int .i64 x) (.int .i64 y) 24
  have hbl := fun w => pblock_any x y x y w
  obtain ⟨m1, h1⟩ : ∃ m, min x x = m := ⟨_, rfl⟩
  obtain ⟨m2, h2⟩ : ∃ m, min y y = m := ⟨_, rfl⟩
  obtain ⟨m3, h3⟩ : ∃ m, max x x = m := ⟨_, rfl⟩
  obtain ⟨m4, h4⟩ : ∃ m, max y y = m := ⟨_, rfl⟩
  have hpt := fun a => meet_pt a x y
  rw [h1, h2, h3, h4] at hbl
  simp only [h1, h2, h3, h4] at hpt
  have HBL := Lib.hid hbl
  have HPT := Lib.hid hpt
  clear hbl hpt h1 h2 h3 h4
  go_enter Try.func21, Try.ntmps21
  go_wp2
  go_loopw [7, 10] (fun _ i wr => ∃ k : Nat, k ≤ l.length ∧ i = .int .i64 k ∧ Below w.heap.size w wr ∧ Cell2 wr w.heap.size (.int .i64 x) (.int .i64 y) ∧ ∀ i (hi : i < l.length), i < k → hasB l[i] x y = false) (fun _ i _ => l.length - (intOf i).toNat)
  case atStart => exact ⟨0, Nat.zero_le _, rfl, hB, C0, fun i _ hi => absurd hi (by omega)⟩
  case round =>
    clear hB C0
    obtain ⟨k, hk, rfl, hB, C0, hn⟩ := hrel
    have HN := Lib.hid hn
    clear hn
    by_cases hlt : k < l.length
    · have HAR := Lib.hid (HA.out.kept hB)
      obtain ⟨g, o, c', i, a1, a2, b1, b2, hlk, ev, hc, hg, p0, p1, p2, p3, p4⟩ := AisAt.spot HAR.out k hlt
      cases ev
      have hh := fun w => pMeet_any ⟨i, a1, a2, b1, b2⟩ ⟨0, m1, m2, m3, m4⟩ w
      have hpt := HPT.out ⟨i, a1, a2, b1, b2⟩
      obtain ⟨t, ht⟩ : ∃ t, hasB l[k] x y = t := ⟨_, rfl⟩
      have hhit : t = true → atL l x y = (i, true) := fun h => by
        have := atL_hit k hlt (ht.trans h) HN.out
        rw [this, hlk]
      have ht2 := ht
      rw [hlk] at ht2
      rw [hpt, ht2] at hh
      simp only at hh
      clear ht2
      have HH := Lib.hid hh
      have HT := Lib.hid ht
      have HHIT := Lib.hid hhit
      have hB1 := hB.alloc hB.size (.cells #[.int .i64 i, .int .i64 a1, .int .i64 a2, .int .i64 b1, .int .i64 b2] 45)
      have C1 := C0.alloc (.cells #[.int .i64 i, .int .i64 a1, .int .i64 a2, .int .i64 b1, .int .i64 b2] 45)
      have D := Cell5.new wr ⟨i, a1, a2, b1, b2⟩ 45
      obtain ⟨d0, d1, d2, d3, d4⟩ := D
      simp only at d0 d1 d2 d3 d4
      have D := Cell5.new wr ⟨i, a1, a2, b1, b2⟩ 45
      clear hh ht hhit hlk hpt
      have j0 : (0 : Int) ≤ (k : Int) := by omega
      have j1 : (k : Int) < (l.length : Int) := by omega
      go_wp2
      refine wp_region_calm0 (by kernel_rfl) (by kernel_rfl) fun M => ?_
      have e0 := fun n : In M.w => n.cell (M.cell C1.c0)
      have e1 := fun n : In M.w => n.cell (M.cell C1.c1)
      have q0 := fun n : In M.w => n.cell (M.cell d0)
      have q1 := fun n : In M.w => n.cell (M.cell d1)
      have q2 := fun n : In M.w => n.cell (M.cell d2)
      have q3 := fun n : In M.w => n.cell (M.cell d3)
      have q4 := fun n : In M.w => n.cell (M.cell d4)
      repeat (go_big_quiet_step (first
        | (go_at_call 44; with_reducible exact In.call (HBL.out _))
        | (go_at_call 43; with_reducible exact In.call (HH.out _))))
      refine wpQuiet_nil ?_
      intro w1 hb
      have d0' := (hb.cell (World.block_lt_of_cell? _ _ d0)).trans d0
      have hB2 := hB1.trans (hb.mono hB1.size)
      have C2 := Lib.hid (C1.kept hb)
      clear e0 e1 q0 q1 q2 q3 q4 M hb p0 p1 p2 p3 p4 d0 d1 d2 d3 d4 hB hB1 C0 C1 HAR HH
      cases t with
      | true =>
        go_wp2
        refine bodyPost_ret (v := .tuple #[.int .i64 i, .bool true]) (by simp [results, Try.results21, go_sem]) rfl ⟨?_, hB2⟩
        have hat := HHIT.out (by simp)
        rw [hat]
      | false =>
        go_wp2
        go_roundw
        case rel =>
          refine ⟨k + 1, by omega, by go_num, hB2, C2.out, fun j hj hjk => ?_⟩
          by_cases e : j = k
          · subst e
            exact HT.out
          · exact HN.out j hj (by omega)
        case measure => simp [intOf]; omega
    · have hk2 : k = l.length := by omega
      have hat := Lib.hid (atL_none fun i hi => HN.out i hi (by omega))
      rw [hk2]
      clear hk hk2 hlt
      go_wp2
      refine bodyPost_ret (v := .tuple #[.int .i64 0, .bool false]) (by simp [results, Try.results21, go_sem]) rfl ⟨?_, hB⟩
      rw [hat.out]
end Go.Proofs.Ytmkepmjdckdpgaa
/- The walks of package plan: whether aisles are a plan. -/
namespace Go.Proofs.Ytmkepmjdckdpgaa
open Go.RowKit

open Classical in
noncomputable def eachB (l : List Ais) : Bool := decide (∀ p q, p < q → q < l.length → meetB (pa l p) (pa l q) = false)
open Classical in
theorem eachB_yes {l : List Ais} (h : ∀ p q, p < q → q < l.length → meetB (pa l p) (pa l q) = false) : eachB l = true := decide_eq_true h
open Classical in
theorem eachB_no {l : List Ais} {p q : Nat} (h1 : p < q) (h2 : q < l.length) (h : meetB (pa l p) (pa l q) = true) : eachB l = false := decide_eq_false fun hh => by
  rw [hh p q h1 h2] at h
  cases h
theorem frame_of' {A : Act} {F : (Nat → Value) → Act} (h : A = F (fun i => A.tmps.getD i undef)) : ∃ f, A = F f := ⟨_, h⟩

set_option maxRecDepth 100000 in
theorem pso_any (a b : Ais) (w : World) :
    Calls Try.prog 50 #[av a.id a.lx a.ly a.hx a.hy, av b.id b.lx b.ly b.hx b.hy] w fun e w' => e = .returned (.bool (!meetB a b)) ∧ Below w.heap.size w w' := by
  have h := fun w => pMeet_any a b w
  obtain ⟨i, a1, a2, a3, a4⟩ := a
  obtain ⟨j, b1, b2, b3, b4⟩ := b
  generalize meetB ⟨i, a1, a2, a3, a4⟩ ⟨j, b1, b2, b3, b4⟩ = t at *
  simp only at h ⊢
  have H := Lib.hid h
  clear h
  have hB : Below w.heap.size w ((w.alloc (.cells #[.int .i64 i, .int .i64 a1, .int .i64 a2, .int .i64 a3, .int .i64 a4] 45)).alloc (.cells #[.int .i64 j, .int .i64 b1, .int .i64 b2, .int .i64 b3, .int .i64 b4] 45)) := ((Below.refl _ _).alloc (Nat.le_refl _) _).alloc (by simp) _
  go_enter Try.func50, Try.ntmps50
  go_wp2_with (go_at_call 43; (with_reducible refine (H.out _).mono ?_); rintro e w1 ⟨rfl, hb⟩; replace hB := hB.trans (hb.mono hB.size); clear hb)
  go_ret
  exact ⟨rfl, hB⟩

theorem sq_le (L : Nat) (i : Nat) (h : i < L) : (L - (i + 1)) * (L + 2) + (L + 2) ≤ (L - i) * (L + 2) := by
  have : L - i = (L - (i + 1)) + 1 := by omega
  rw [this, Nat.add_mul]
  omega

set_option maxHeartbeats 2000000 in
set_option maxRecDepth 100000 in
theorem ptwo_any (va : Value) (l : List Ais) (w : World) (ha : AisAt w va l) (hl : l.length ≤ 32) :
    Calls Try.prog 49 #[va, .func (.func 50) #[] #[]] w fun e w' => e = .returned (.bool (eachB l)) ∧ Below w.heap.size w w' := by
  have HA := Lib.hid ha
  obtain ⟨a, c, rfl⟩ := RowsAt.form ha
  clear ha
  go_enter Try.func49, Try.ntmps49
  go_wp2
  refine wp_scope_goto 0 (fun n a' w' => ∃ (i j : Nat) (y z : Int), y = i ∧ z = j ∧ n = (l.length - i) * (l.length + 2) + (l.length + 2 - j) ∧ i < j ∧ (j ≤ l.length ∨ (i = 0 ∧ j = 1)) ∧ Below w.heap.size w w' ∧ (∀ p q, p < q → q < l.length → (p < i ∨ (p = i ∧ q < j)) → meetB (pa l p) (pa l q) = false) ∧ ∃ f : Nat → Value, a' = { tmps := #[.slice a l.length c, .func (.func 50) #[] #[], f 2, f 3, f 4, .int .i64 y, .int .i64 z, f 7, f 8, f 9, f 10, f 11, f 12, f 13, f 14, f 15, f 16, f 17, f 18, f 19, f 20, f 21, f 22, f 23, f 24, f 25, f 26, f 27, f 28, f 29, f 30, f 31], defers := [] }) rfl rfl ?_ ?_
  · rintro n a' w' ⟨i, j, y, z, rfl, rfl, rfl, hij, hj, hB, hgood, f, rfl⟩ K hK
    have HG := Lib.hid hgood
    clear hgood
    have j0 : (0 : Int) ≤ (i : Int) := by omega
    have j1 : (0 : Int) ≤ (j : Int) := by omega
    by_cases hlt : j < l.length
    · have HAR := Lib.hid (HA.out.kept hB)
      obtain ⟨g, o, c', i0, a1, a2, b1, b2, hlk, ev, hc, hg, p0, p1, p2, p3, p4⟩ := AisAt.at HAR.out i (by omega)
      cases ev
      obtain ⟨g', o', c', i1, c1, c2, d1, d2, hlk', ev, hc', hg', q0, q1, q2, q3, q4⟩ := AisAt.at HAR.out j hlt
      cases ev
      have hso := fun w => pso_any (pa l i) (pa l j) w
      obtain ⟨t, ht⟩ : ∃ t, meetB (pa l i) (pa l j) = t := ⟨_, rfl⟩
      rw [ht, hlk, hlk'] at hso
      simp only at hso
      have HSO := Lib.hid hso
      have HT := Lib.hid ht
      have j2 : (i : Int) < (l.length : Int) := by omega
      have j3 : (j : Int) < (l.length : Int) := by omega
      clear hso ht hlk hlk'
      go_wp2
      refine wp_region_calm0 (by kernel_rfl) (by kernel_rfl) fun M => ?_
      have e0 := fun n : In M.w => n.cell (M.cell p0)
      have e1 := fun n : In M.w => n.cell (M.cell p1)
      have e2 := fun n : In M.w => n.cell (M.cell p2)
      have e3 := fun n : In M.w => n.cell (M.cell p3)
      have e4 := fun n : In M.w => n.cell (M.cell p4)
      have r0 := fun n : In M.w => n.cell (M.cell q0)
      have r1 := fun n : In M.w => n.cell (M.cell q1)
      have r2 := fun n : In M.w => n.cell (M.cell q2)
      have r3 := fun n : In M.w => n.cell (M.cell q3)
      have r4 := fun n : In M.w => n.cell (M.cell q4)
      repeat (go_big_quiet_step ((go_at_call 50; with_reducible exact In.call (HSO.out _))))
      refine wpQuiet_nil ?_
      intro w1 hb
      replace hB := hB.trans (hb.mono hB.size)
      clear e0 e1 e2 e3 e4 r0 r1 r2 r3 r4 M hb p0 p1 p2 p3 p4 q0 q1 q2 q3 q4 HAR HSO
      cases t with
      | true =>
        go_wp2
        simp only [Exit.jump]
        go_ret
        exact ⟨ret_b (eachB_no hij hlt HT.out).symm, hB⟩
      | false =>
        go_wp2
        go_step3
        refine ⟨rfl, hK _ _ _ ?_ ⟨i, j + 1, _, _, rfl, by go_num, rfl, by omega, .inl (by omega), hB, ?_, frame_of' rfl⟩⟩
        · omega
        · intro p q hpq hq hh
          by_cases e : p = i ∧ q = j
          · obtain ⟨rfl, rfl⟩ := e
            exact HT.out
          · exact HG.out p q hpq hq (by omega)
    · by_cases h2 : i + 2 < l.length
      · have j2 : (i : Int) + 1 + 1 < (l.length : Int) := by omega
        have hs := sq_le l.length i (by omega)
        go_wp2
        go_step3
        refine ⟨rfl, hK _ _ _ ?_ ⟨i + 1, i + 2, _, _, by go_num, by go_num, rfl, by omega, .inl (by omega), hB, ?_, frame_of' rfl⟩⟩
        · omega
        · intro p q hpq hq hh
          exact HG.out p q hpq hq (by omega)
      · have j2 : ¬ (i : Int) + 1 + 1 < (l.length : Int) := by omega
        go_wp2
        simp only [Exit.jump]
        go_ret
        exact ⟨ret_b (eachB_yes fun p q hpq hq => HG.out p q hpq hq (by omega)).symm, hB⟩
  · intro K hpass
    go_wp2
    go_step3
    rename_i hback
    exact hback _ _ (hpass _ _ _ ⟨0, 1, _, _, rfl, rfl, rfl, by omega, .inr ⟨rfl, rfl⟩, Below.refl _ _, fun p q h1 h2 h3 => by omega, frame_of' rfl⟩)

/-- the ID ahead of the k-th -/
def pid (l : List Ais) (k : Nat) : Int := if k = 0 then 0 else (pa l (k - 1)).id
def stepB (l : List Ais) (k : Nat) : Bool := decide (pid l k < (pa l k).id ∧ (pa l k).id ≤ 999) && floorB (pa l k)
theorem pid_succ (l : List Ais) (k : Nat) : pid l (k + 1) = (pa l k).id := by unfold pid; rw [if_neg (by omega)]; rfl
theorem floor_iff (a : Ais) : floorB a = true ↔ valA a ∧ smallA a 1000 = true := by
  unfold floorB smallB valA
  rw [small_iff]
  simp only [Bool.and_eq_true, decide_eq_true_eq]
  omega
theorem right_of {l : List Ais} (h1 : l.length ≤ 32) (h2 : ∀ k, k < l.length → stepB l k = true) (h3 : eachB l = true) : rightP l = true := by
  rw [rightP_iff]
  refine ⟨h1, fun k hk => ?_⟩
  have hs : ∀ k, k < l.length → pid l k < (pa l k).id ∧ (pa l k).id ≤ 999 ∧ valA (pa l k) ∧ smallA (pa l k) 1000 = true := by
    intro k hk
    have := h2 k hk
    unfold stepB at this
    rw [Bool.and_eq_true, floor_iff, decide_eq_true_eq] at this
    exact ⟨this.1.1, this.1.2, this.2.1, this.2.2⟩
  have hp : ∀ k, k < l.length → 1 ≤ (pa l k).id := by
    intro k
    induction k with
    | zero => intro hk; have := (hs 0 hk).1; unfold pid at this; rw [if_pos rfl] at this; omega
    | succ k ih => intro hk; have := (hs _ hk).1; rw [pid_succ] at this; have := ih (by omega); omega
  have he : ∀ p q, p < q → q < l.length → meetB (pa l p) (pa l q) = false := by
    intro p q hpq hq
    cases hm : meetB (pa l p) (pa l q) with
    | false => rfl
    | true => rw [eachB_no hpq hq hm] at h3; cases h3
  obtain ⟨g1, g2, g3, g4⟩ := hs k hk
  exact ⟨hp k hk, g2, fun h0 => by unfold pid at g1; rw [if_neg (by omega)] at g1; exact g1, g4, g3, fun p hpk => he p k hpk hk⟩
theorem right_step {l : List Ais} {k : Nat} (hk : k < l.length) (h : stepB l k = false) : rightP l = false := by
  apply rightP_no
  intro hr
  have o := hr.2 k hk
  have : stepB l k = true := by
    unfold stepB
    rw [Bool.and_eq_true, floor_iff, decide_eq_true_eq]
    refine ⟨⟨?_, o.id2⟩, o.val, o.sm⟩
    unfold pid
    have h1 := o.id1
    split
    · omega
    · exact o.up (by omega)
  rw [this] at h
  cases h
theorem right_each {l : List Ais} (h : eachB l = false) : rightP l = false := by
  apply rightP_no
  intro hr
  rw [eachB_yes fun p q hpq hq => (hr.2 q hq).apart p hpq] at h
  cases h
theorem right_long {l : List Ais} (h : ¬ l.length ≤ 32) : rightP l = false := rightP_no fun hr => h hr.1

set_option maxHeartbeats 4000000 in
set_option maxRecDepth 100000 in
theorem pRight_any (va : Value) (l : List Ais) (w : World) (ha : AisAt w va l) (hl : l.length ≤ 9223372036854775807) :
    Calls Try.prog 31 #[va] w fun e w' => e = .returned (.bool (rightP l)) ∧ Below w.heap.size w w' := by
  have HA := Lib.hid ha
  obtain ⟨a, c, rfl⟩ := RowsAt.form ha
  clear ha
  by_cases h32 : l.length ≤ 32
  · go_enter Try.func31, Try.ntmps31
    go_wp2
    go_loopw [3, 5, 11] (fun s _ i wr => ∃ k : Nat, k ≤ l.length ∧ i = .int .i64 k ∧ s = .int .i64 (pid l k) ∧ Below w.heap.size w wr ∧ ∀ i, i < k → stepB l i = true) (fun _ _ i _ => l.length - (intOf i).toNat)
    case atStart => exact ⟨0, Nat.zero_le _, rfl, rfl, Below.refl _ _, fun i hi => absurd hi (by omega)⟩
    case round =>
      obtain ⟨k, hk, rfl, rfl, hB, hn⟩ := hrel
      have HN := Lib.hid hn
      clear hn
      by_cases hlt : k < l.length
      · have HAR := Lib.hid (HA.out.kept hB)
        obtain ⟨g, o, c', i, a1, a2, b1, b2, hlk, ev, hc, hg, p0, p1, p2, p3, p4⟩ := AisAt.at HAR.out k hlt
        cases ev
        have hf := fun w => pfloor_any (pa l k) w
        have hno := right_step (l := l) hlt
        have hsu := pid_succ l k
        have hst : stepB l k = (decide (pid l k < (pa l k).id ∧ (pa l k).id ≤ 999) && floorB (pa l k)) := rfl
        obtain ⟨t, ht⟩ : ∃ t, floorB (pa l k) = t := ⟨_, rfl⟩
        rw [ht] at hst hf
        rw [hlk] at hst hf hsu
        simp only at hst hf hsu
        obtain ⟨z, hz⟩ : ∃ z, pid l k = z := ⟨_, rfl⟩
        rw [hz] at hst ⊢
        have HF := Lib.hid hf
        have HNO := Lib.hid hno
        have HSU := Lib.hid hsu
        have HST := Lib.hid hst
        have hB1 := hB.alloc hB.size (.cells #[.int .i64 i, .int .i64 a1, .int .i64 a2, .int .i64 b1, .int .i64 b2] 45)
        have D := Lib.hid (Cell5.new wr ⟨i, a1, a2, b1, b2⟩ 45)
        have j0 : (0 : Int) ≤ (k : Int) := by omega
        have j1 : (k : Int) < (l.length : Int) := by omega
        clear hf hno hsu hst ht hlk hz
        have hcase : (i ≤ z) ∨ (¬ i ≤ z ∧ 999 < i) ∨ (¬ i ≤ z ∧ ¬ 999 < i ∧ t = false) ∨ (¬ i ≤ z ∧ ¬ 999 < i ∧ t = true) := by
          cases t <;> simp <;> omega
        rcases hcase with h1 | ⟨h1, h2⟩ | ⟨h1, h2, rfl⟩ | ⟨h1, h2, rfl⟩
        · have hs0 : stepB l k = false := by rw [HST.out, decide_eq_false (by omega)]; rfl
          have HS0 := Lib.hid hs0
          clear hs0
          go_wp2
          go_ret
          exact ⟨ret_b (HNO.out HS0.out).symm, hB1⟩
        · have hs0 : stepB l k = false := by rw [HST.out, decide_eq_false (by omega)]; rfl
          have HS0 := Lib.hid hs0
          clear hs0
          go_wp2
          go_ret
          exact ⟨ret_b (HNO.out HS0.out).symm, hB1⟩
        · have hs0 : stepB l k = false := by rw [HST.out, Bool.and_false]
          have HS0 := Lib.hid hs0
          clear hs0
          go_wp2_with (go_at_call 48; (with_reducible refine (HF.out _).mono ?_); rintro e w1 ⟨rfl, hb⟩; have hB2 := hB1.trans (hb.mono hB1.size); clear hb)
          go_ret
          exact ⟨ret_b (HNO.out HS0.out).symm, hB2⟩
        · have hs0 : stepB l k = true := by rw [HST.out, decide_eq_true (by omega)]; rfl
          have HS0 := Lib.hid hs0
          clear hs0
          go_wp2_with (go_at_call 48; (with_reducible refine (HF.out _).mono ?_); rintro e w1 ⟨rfl, hb⟩; have hB2 := hB1.trans (hb.mono hB1.size); obtain ⟨d0, d1, d2, d3, d4⟩ := D.out.kept hb; simp only at d0 d1 d2 d3 d4; clear hb)
          go_roundw
          case rel =>
            refine ⟨k + 1, by omega, by go_num, by rw [HSU.out], hB2, fun j hj => ?_⟩
            by_cases e : j = k
            · subst e
              exact HS0.out
            · exact HN.out j (by omega)
          case measure => simp [intOf]; omega
      · have hk2 : k = l.length := by omega
        have hst : ∀ i, i < l.length → stepB l i = true := fun i hi => HN.out i (by omega)
        have htw := fun w ha => ptwo_any (.slice a l.length c) l w ha h32
        have hres : eachB l = rightP l := by
          cases he : eachB l with
          | true => exact (right_of h32 hst he).symm
          | false => exact (right_each he).symm
        rw [hres] at htw
        have HTW := Lib.hid htw
        rw [hk2]
        clear hk hk2 hlt hst htw hres
        go_wp2_with (go_at_call 49; (with_reducible refine (HTW.out _ (HA.out.kept hB)).mono ?_); rintro e w1 ⟨rfl, hb⟩; replace hB := hB.trans (hb.mono hB.size); clear hb)
        go_ret
        exact ⟨rfl, hB⟩
  · have hr := right_long h32
    have HR := Lib.hid hr
    clear hr
    have h33 : (32 : Int) < (l.length : Int) := by omega
    go_enter Try.func31, Try.ntmps31
    go_wp2
    go_ret
    exact ⟨ret_b HR.out.symm, Below.refl _ _⟩
end Go.Proofs.Ytmkepmjdckdpgaa
