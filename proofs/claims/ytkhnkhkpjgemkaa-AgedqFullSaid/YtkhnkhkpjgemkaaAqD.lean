/- Stage 15's program: Put, List. -/
import Derived.Test.YtkhnkhkpjgemkaaAqC
import Derived.Test.YtkhnkhkpjgemkaaBun5
import Derived.Test.YtkhnkhkpjgemkaaConcatI
import Derived.Test.YtkhnkhkpjgemkaaLoose
namespace Go.Proofs.Ytkhnkhkpjgemkaa
open Go.RowKit

theorem kPut_nil (x : It) (w : World) : Calls Try.prog 6 #[.pointer none, itv x] w fun e w' => e = .returned (.int .i64 12) ∧ Below w.heap.size w w' := by
  obtain ⟨x1, x2, x3, x4⟩ := x
  have HC := Lib.hid fun w => satClip_c x2 0 1048575 w
  have HK := Lib.hid fun w => kTick_any x3 w
  generalize iclip x2 0 1048575 = a at *
  generalize tk x3 = s at *
  have hX := Blk.new w [.int .i64 x1, .int .i64 x2, .int .i64 x3, .int .i64 x4] 28
  have hX2 := Blk.new w [.int .i64 x1, .int .i64 a, .int .i64 x3, .int .i64 x4] 28
  have c1 := hX.cell 1 rfl
  have z1 := hX.free 1 rfl
  have c2 := hX2.cell 2 rfl
  have z2 := hX2.free 2 rfl
  have HB := Lib.hid ((Below.refl w.heap.size w).alloc (Nat.le_refl _) (.cells #[.int .i64 x1, .int .i64 a, .int .i64 s, .int .i64 x4] 28))
  clear hX hX2
  simp only [itv]
  go_enter Try.func6, Try.ntmps6
  go_wp2_with (first
    | (go_at_call 17; (with_reducible refine (HC.out _).mono ?_); rintro e w1 ⟨rfl, rfl⟩)
    | (go_at_call 16; (with_reducible refine (HK.out _).mono ?_); rintro e w1 ⟨rfl, rfl⟩))
  generalize w.alloc (.cells #[.int .i64 x1, .int .i64 a, .int .i64 s, .int .i64 x4] 28) = ww at *
  refine wp_region_calm0 (by kernel_rfl) (by kernel_rfl) fun M => ?_
  repeat (go_big_quiet_step (fail))
  refine wpQuiet_nil ?_
  clear M
  intro w1 hb
  have HB1 := Lib.hid (HB.out.trans (hb.mono HB.out.size))
  go_wp2
  go_ret
  exact ⟨rfl, HB1.out⟩

set_option maxHeartbeats 4000000 in
set_option maxRecDepth 100000 in
theorem kPut_any {F : Nat → Prop} {w : World} {p : Nat} {n r : Int} {l : List It} (x : It) (h : QAt F w p n r l) (hl : l.length ≤ 999) (hid : I64 x.id) :
    Calls Try.prog 6 #[ptr13 p, itv x] w fun e w' => e = .returned (.int .i64 (putA ⟨r, n, l⟩ x).2) ∧ ∃ F', QAt F' w' p n r (putA ⟨r, n, l⟩ x).1.l ∧ Mv F F' w w' := by
  obtain ⟨x1, x2, x3, x4⟩ := x
  have HC := Lib.hid fun w => satClip_c x2 0 1048575 w
  have HK := Lib.hid fun w => kTick_any x3 w
  have ea : iclip x2 0 1048575 = pr x2 := rfl
  have ba := pr_bd x2
  have bs := tk_bd x3
  have ep : putA ⟨r, n, l⟩ ⟨x1, x2, x3, x4⟩ = if n < tk x3 then (⟨r, n, l⟩, 12) else if (gA l x1).isSome then (⟨r, n, l⟩, 6) else (⟨r, n, l ++ [⟨x1, pr x2, tk x3, x4⟩]⟩, 0) := by
    rw [gA_some]
    rfl
  rw [ep]
  rw [ea] at HC
  clear ea ep
  obtain ⟨res, hres⟩ : ∃ res, (if n < tk x3 then (⟨r, n, l⟩, 12) else if (gA l x1).isSome then (⟨r, n, l⟩, 6) else (⟨r, n, l ++ [⟨x1, pr x2, tk x3, x4⟩]⟩, 0) : Aq × Int) = res := ⟨_, rfl⟩
  rw [hres]
  have HRES := Lib.hid hres
  clear hres
  generalize pr x2 = a at *
  generalize tk x3 = s at *
  have hX := Blk.new w [.int .i64 x1, .int .i64 x2, .int .i64 x3, .int .i64 x4] 28
  have hX2 := Blk.new w [.int .i64 x1, .int .i64 a, .int .i64 x3, .int .i64 x4] 28
  have hX3 := Blk.new w [.int .i64 x1, .int .i64 a, .int .i64 s, .int .i64 x4] 28
  have HX := Lib.hid hX3
  have c1 := hX.cell 1 rfl
  have z1 := hX.free 1 rfl
  have c2 := hX2.cell 2 rfl
  have z2 := hX2.free 2 rfl
  have hb0 := (Below.refl w.heap.size w).alloc (Nat.le_refl _) (.cells #[.int .i64 x1, .int .i64 a, .int .i64 s, .int .i64 x4] 28)
  have HB := Lib.hid hb0
  have HQ0 := Lib.hid h
  obtain ⟨Ff, Fg, mb, pf, pg, lf, lg, Sf, Sg, h1, h2, h3⟩ := h
  have HR := Lib.hid (h1.kept hb0)
  have HNP : w.heap.size ≠ p := fun e => by have := h1.lt p h1.fp; omega
  have HI := Lib.hid hid
  clear hX hX2 hX3 hb0
  simp only [itv]
  go_enter Try.func6, Try.ntmps6
  go_wp2_with (first
    | (go_at_call 17; (with_reducible refine (HC.out _).mono ?_); rintro e w1 ⟨rfl, rfl⟩)
    | (go_at_call 16; (with_reducible refine (HK.out _).mono ?_); rintro e w1 ⟨rfl, rfl⟩))
  clear c1 z1 c2 z2
  generalize w.alloc (.cells #[.int .i64 x1, .int .i64 a, .int .i64 s, .int .i64 x4] 28) = ww at *
  obtain ⟨t, ht⟩ : ∃ t, decide (n < s) = t := ⟨_, rfl⟩
  have HT := Lib.hid ht
  have d2 := HX.out.cell 2 rfl
  refine wp_region_calm0 (by kernel_rfl) (by kernel_rfl) fun M => ?_
  have m0 := fun n : In M.w => n.cell (M.cell d2)
  have HTM := Lib.hid fun n : In M.w => kTime_any (HR.out.blk.kept (M.h.trans (n.h.mono M.h.size)))
  repeat (go_big_quiet_step ((go_at_call 19; with_reducible exact In.call_same (HTM.out _))))
  refine wpQuiet_nil ?_
  clear m0 HTM M d2
  intro w1 hb1
  have HB1 := Lib.hid (HB.out.trans (hb1.mono HB.out.size))
  have HR1 := Lib.hid (HR.out.kept hb1)
  have HX1 := Lib.hid (HX.out.kept hb1)
  clear hb1
  cases t with
  | true =>
    have hlt : n < s := by simpa using ht
    have er := HRES.out
    rw [if_pos hlt] at er
    subst er
    clear ht h1 h2 h3 HRES
    go_wp2
    go_ret
    exact ⟨rfl, F, HQ0.out.kept HB1.out, Mv.of_below HB1.out⟩
  | false =>
    have hlt : ¬ n < s := by simpa using ht
    have er := HRES.out
    rw [if_neg hlt] at er
    have HRE := Lib.hid er
    have HLT := Lib.hid hlt
    clear ht er HRES hlt
    have d0 := HX1.out.cell 0 rfl
    have e2 := HR1.out.blk.cell 2 rfl
    obtain ⟨y, hy⟩ : ∃ y, (gA l x1).getD ⟨0, 0, 0, 0⟩ = y := ⟨_, rfl⟩
    obtain ⟨o, ho⟩ : ∃ o, (gA l x1).isSome = o := ⟨_, rfl⟩
    obtain ⟨y1, y2, y3, y4⟩ := y
    have LK := Lib.hid fun (w2 : World) (hb : Below w1.heap.size w1 w2) => (by
      have := MapIt.look (HR1.out.kept hb).map hid
      rw [hy, ho] at this
      exact this : (Instr.lookup 48 (.map (some mb)) (.int .i64 x1) true).run Try.prog w2 = .ok (.tuple #[.agg #[.int .i64 y1, .int .i64 y2, .int .i64 y3, .int .i64 y4], .bool o]) w2)
    have hal := (Below.refl w1.heap.size w1).alloc (Nat.le_refl _) (.cells #[.int .i64 0, .int .i64 0, .int .i64 0, .int .i64 0] 28)
    have d0' := (HX1.out.kept hal).cell 0 rfl
    have e2' := (HR1.out.blk.kept hal).cell 2 rfl
    have L1 := LK.out w1 (Below.refl _ _)
    have L2 := LK.out _ hal
    have L3 := LK.out _ hal.drew
    have L4 := LK.out _ (Below.refl w1.heap.size w1).drew
    have L5 := LK.out _ ((Below.refl w1.heap.size w1).drew.alloc (Nat.le_refl _) (.cells #[.int .i64 0, .int .i64 0, .int .i64 0, .int .i64 0] 28))
    have hC := Blk.new w1 [.int .i64 0, .int .i64 0, .int .i64 0, .int .i64 0] 28
    have z0 := hC.free 0 rfl
    have z1 := hC.free 1 rfl
    have z2 := hC.free 2 rfl
    have z3 := hC.free 3 rfl
    have v0 := hC.cell 0 rfl
    have v1 := hC.cell 1 rfl
    have v2 := hC.cell 2 rfl
    have v3 := hC.cell 3 rfl
    have HB3 := Lib.hid (((Below.refl w1.heap.size w1).alloc (Nat.le_refl _) (.cells #[.int .i64 y1, .int .i64 y2, .int .i64 y3, .int .i64 y4] 28)).drew)
    have HH2 := Lib.hid h2
    have HLN := Lib.hid (show Sf.length ≤ 999 ∧ Sg.length ≤ 999 from by have := h2.len; omega)
    have HLL := Lib.hid hl
    have HMB := Lib.hid (show mb ≠ w.heap.size from fun e => by have := h1.lt mb h1.fm; omega)
    have HO := Lib.hid ho
    have HBA := Lib.hid ba
    have HBS := Lib.hid bs.1
    clear hC hal h1 h2 h3 ho hy ba bs LK hl
    go_wp2
    go_region
    all_goals (
      clear d0 e2 d0' e2' L1 L2 L3 L4 L5 z0 z1 z2 z3 v0 v1 v2 v3
      generalize World.drew _ = w4 at *
      have HB4 := Lib.hid (HB1.out.trans (HB3.out.mono HB1.out.size))
      cases o with
      | true =>
        have er := HRE.out
        rw [HO.out, if_pos rfl] at er
        subst er
        clear HRE
        go_wp2
        go_ret
        exact ⟨rfl, F, HQ0.out.kept HB4.out, Mv.of_below HB4.out⟩
      | false =>
        have er := HRE.out
        rw [HO.out, if_neg (by decide)] at er
        subst er
        have HXO := Lib.hid (show okI n ⟨x1, a, s, x4⟩ from ⟨HBA.out, ⟨HBS.out, by have := HLT.out; omega⟩, HI.out⟩)
        have hno : gA l (⟨x1, a, s, x4⟩ : It).id = none := by
          show gA l x1 = none
          have ho := HO.out
          cases hg : gA l x1 with
          | none => rfl
          | some _ => rw [hg] at ho; cases ho
        have HQ2 := Lib.hid (HH2.out.put HXO.out hno)
        have HS := Lib.hid (show gA (l ++ [⟨x1, a, s, x4⟩]) = updG (gA l) x1 (some ⟨x1, a, s, x4⟩) from gA_snoc hno)
        have HR4 := Lib.hid (HR1.out.kept HB3.out)
        have HX4 := Lib.hid (HX1.out.kept HB3.out)
        have HL2 := Lib.hid (show l.length + 1 = (l ++ [(⟨x1, a, s, x4⟩ : It)]).length by simp)
        have d0 := HX4.out.cell 0 rfl
        have d1 := HX4.out.cell 1 rfl
        have d2 := HX4.out.cell 2 rfl
        have d3 := HX4.out.cell 3 rfl
        have e2 := HR4.out.blk.cell 2 rfl
        clear HRE hno hid HC HK HQ0 HR HX HR1 HX1
        go_wp2
        refine wp_region_calmT 7 (by kernel_rfl) (by simp) (by kernel_rfl) fun M => ?_
        simp only [List.take_succ_cons, List.take_zero, List.drop_succ_cons, List.drop_zero]
        have m0 := fun n : In M.w => n.cell (M.cell d0)
        have m1 := fun n : In M.w => n.cell (M.cell d1)
        have m2 := fun n : In M.w => n.cell (M.cell d2)
        have m3 := fun n : In M.w => n.cell (M.cell d3)
        have m4 := fun n : In M.w => n.cell (M.cell e2)
        repeat (go_big_quiet_step (fail))
        refine wpQuiet_nil ?_
        clear m0 m1 m2 m3 m4 M d0 d1 d2 d3 e2
        intro w5 hb5
        have HR5 := Lib.hid (HR4.out.kept hb5)
        have HX5 := Lib.hid (HX4.out.kept hb5)
        have HB5 := Lib.hid (HB4.out.trans (hb5.mono HB4.out.size))
        clear hb5 HR4 HX4
        go_wp2_with (at_mapUpdate; refine wpList_putIt rfl rfl _ _ _ rfl rfl HR5.out.map (by have := HLL.out; omega) _ HI.out rfl ⟨x1, a, s, x4⟩ rfl ?_; intro w6 hm6 hg6; rw [HO.out, if_neg (by decide), ← HS.out, HL2.out] at hm6; have HR6 := Lib.hid (HR5.out.mapped hm6 hg6); have HX6 := Lib.hid (HX5.out.grown hg6 (fun e => HMB.out (by injection e with e; exact e.symm))); clear hm6 hg6)
        have d0 := HX6.out.cell 0 rfl
        have d1 := HX6.out.cell 1 rfl
        have d2 := HX6.out.cell 2 rfl
        have d3 := HX6.out.cell 3 rfl
        have e3 := HR6.out.1.blk.cell 3 rfl
        obtain ⟨k, hk⟩ : ∃ k, keyA r ⟨x1, a, s, x4⟩ = k := ⟨_, rfl⟩
        have HPU := Lib.hid fun (w7 : World) (hb : Below w6.heap.size w6 w7) => hPut_any (thG r ⟨x1, a, s, x4⟩) w7 (HR6.out.1.kept hb).hg (by have := HLN.out; omega) HI.out
        simp only [thG] at HPU
        have HST := Lib.hid fun (w7 : World) (hb : Below w6.heap.size w6 w7) => kStart_any ⟨x1, a, s, x4⟩ (HR6.out.1.kept hb).blk HH2.out.hn HH2.out.hr HXO.out
        simp only [itv] at HST
        rw [hk] at HST HPU
        have HKE := Lib.hid hk
        clear hk
        refine wp_region_calmT 11 (by kernel_rfl) (by simp) (by kernel_rfl) fun M => ?_
        simp only [List.take_succ_cons, List.take_zero, List.drop_succ_cons, List.drop_zero]
        have m0 := fun n : In M.w => n.cell (M.cell d0)
        have m1 := fun n : In M.w => n.cell (M.cell d1)
        have m2 := fun n : In M.w => n.cell (M.cell d2)
        have m3 := fun n : In M.w => n.cell (M.cell d3)
        have m4 := fun n : In M.w => n.cell (M.cell e3)
        repeat (go_big_quiet_step ((go_at_call 21; with_reducible exact In.call (HST.out _ (M.h.trans (In.h _ |>.mono M.h.size))))))
        refine wpQuiet_nil ?_
        clear m0 m1 m2 m3 m4 M d0 d1 d2 d3 e3
        intro w7 hb7
        have HB7 := Lib.hid hb7
        have HM7 := Lib.hid (((Mv.of_below HB5.out).trans HR6.out.2).trans (Mv.of_below hb7))
        clear hb7
        go_wp2_with (first
          | (go_at_call 20; (with_reducible refine (HPU.out _ HB7.out).mono ?_); rintro e w8 ⟨rfl, F8, g1, g2⟩; have HR8 := Lib.hid ((HR6.out.1.kept HB7.out).growing g1 g2); clear g1 g2)
          | (go_at_call 22; (with_reducible refine (kRipen_any HR8.out.1 (by have := HQ2.out; simp only [thG] at this; rwa [HKE.out] at this) (by rw [← HL2.out]; have := HLL.out; omega)).mono ?_); rintro e w9 ⟨rfl, F9, g1, g2⟩; have HE := Lib.hid g1; have HE2 := Lib.hid g2; clear g1 g2))
        go_ret
        exact ⟨rfl, F9, HE.out, (HM7.out.trans HR8.out.2).trans HE2.out⟩)

set_option maxHeartbeats 4000000 in
set_option maxRecDepth 100000 in
theorem kList_any {F : Nat → Prop} {w : World} {p : Nat} {n r : Int} {l : List It} (h : QAt F w p n r l) (hl : l.length ≤ 1000) :
    Calls Try.prog 8 #[ptr13 p] w fun e w' => ∃ v, e = .returned v ∧ OwnI w' w.heap.size v (listA ⟨r, n, l⟩) ∧ Below w.heap.size w w' := by
  obtain ⟨Ff, Fg, mb, pf, pg, lf, lg, Sf, Sg, h1, h2, h3⟩ := h
  have hlen := h2.len
  rw [← h2.list h3]
  have HL := Lib.hid (show (idsT Sf).length + (idsT Sg).length ≤ 1000 by rw [idsT_len, idsT_len]; omega)
  have HA := Lib.hid fun (w1 : World) (hb : Below w.heap.size w w1) => hAll_any w1 (h1.kept hb).hf (by omega)
  have HG := Lib.hid fun (w1 : World) (hb : Below w.heap.size w w1) => hAll_any w1 (h1.kept hb).hg (by omega)
  have p3 := h1.blk.cell 3 rfl
  have p4 := h1.blk.cell 4 rfl
  generalize idsT Sf = A at *
  generalize idsT Sg = B at *
  clear h1 h2 h3 hlen hl
  go_enter Try.func8, Try.ntmps8
  go_wp2
  refine wp_region_loose 10 [.calm 4, .ind (.loose (fun v w' => RowsAt w' 1 csI v A) (fun v => v)), .calm 4, .ind (.loose (fun v w' => RowsAt w' 1 csI v B) (fun v => v))] (by kernel_rfl) (by simp) (by kernel_rfl) ?_
  simp only [List.take_succ_cons, List.take_zero, List.drop_succ_cons, List.drop_zero]
  refine ⟨by simp, fun M => ?_⟩
  simp only [List.take_succ_cons, List.take_zero, List.drop_succ_cons, List.drop_zero]
  have m0 := fun n : In M.w => n.cell (M.cell p4)
  repeat (go_big_quiet_step (fail))
  refine wpQuiet_nil ?_
  clear m0 M
  refine ⟨rfl, rfl, loose_of (f := 25) (args := #[ptr13 pf]) (fun v w1 w2 h1 h2 => RowsAt.kept h1 h2) (fun k => by simp [go_sem]) (fun k => (HA.out k.w k.h).mono fun e w1 ⟨v, he, ho, hb⟩ => ⟨v, he, OwnR.rows csI_len ho, hb⟩), fun x1 _ X hX => ?_⟩
  obtain ⟨n1, u1⟩ := x1
  simp [Act.put, Kd.val] at hX
  subst hX
  refine ⟨by simp, fun M => ?_⟩
  simp only [List.take_succ_cons, List.take_zero, List.drop_succ_cons, List.drop_zero]
  have m0 := fun n : In M.w => n.cell (M.cell p3)
  repeat (go_big_quiet_step (fail))
  refine wpQuiet_nil ?_
  clear m0 M
  refine ⟨rfl, rfl, loose_of (f := 25) (args := #[ptr13 pg]) (fun v w1 w2 h1 h2 => RowsAt.kept h1 h2) (fun k => by simp [go_sem]) (fun k => (HG.out k.w k.h).mono fun e w1 ⟨v, he, ho, hb⟩ => ⟨v, he, OwnR.rows csI_len ho, hb⟩), fun x2 _ X hX => ?_⟩
  obtain ⟨n2, u2⟩ := x2
  simp [Act.put, Kd.val] at hX
  subst hX
  refine ⟨rfl, fun w7 hz => ?_⟩
  simp only [Kd.upd] at hz
  obtain ⟨⟨hbl, _⟩, hz2, _⟩ := hz
  obtain ⟨⟨_, hA⟩, hB⟩ := hz2
  obtain ⟨a1, c1, rfl⟩ := RowsAt.form hA
  obtain ⟨a2, c2, rfl⟩ := RowsAt.form hB
  have hc := concatI_any _ [A, B] _ (iss_two hA hB 33) (by simp) (by simp [catI]; have := HL.out; omega)
  rw [show catI [A, B] = A ++ B by simp [catI]] at hc
  have HC := Lib.hid hc
  have HB8 := Lib.hid (hbl.alloc hbl.size (.cells #[.slice a1 A.length c1, .slice a2 B.length c2] 33))
  clear hA hB hc hbl
  go_wp2_with (go_at_call 24; (with_reducible refine HC.out.mono ?_); rintro e w9 ⟨v, rfl, ho, hb⟩; have HO := Lib.hid ho; have HB9 := Lib.hid hb; clear ho hb)
  go_ret
  exact ⟨_, rfl, OwnR.base13 HO.out HB8.out.size, HB8.out.trans (HB9.out.mono HB8.out.size)⟩
end Go.Proofs.Ytkhnkhkpjgemkaa
