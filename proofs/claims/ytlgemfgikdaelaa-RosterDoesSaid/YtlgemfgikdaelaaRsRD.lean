/- Stage 25's document: Take, Give, Free, First. -/
import Derived.Test.YtlgemfgikdaelaaRsRC
namespace Go.Proofs.Ytlgemfgikdaelaa
open Go.RowKit

/-- who is busy, as a call hands it back -/
def FrB (w : World) (bv : Value) (B : List Int) (bv' : Value) (B' : List Int) : Prop := (bv' = bv ∧ B' = B) ∨ ∀ k, bv'.ownBlock = some k → w.heap.size ≤ k
theorem busyE_at {L : List En} {n : Int} (hh : hasE L n = true) {x : En} (hd : L.getD (befE L n) default = x) : busyE L n = x.busy := by
  unfold busyE
  rw [hh, hd, Bool.true_and]
set_option maxHeartbeats 8000000 in
set_option maxRecDepth 100000 in
theorem refTake25_any (hv bv : Value) (room : Int) (L : List En) (B : List Int) (n : Int) (w : World) (ha : RowsAt w 3 csHd hv (viewE L)) (hb : IntsAt w bv B) (hok : RsOk L) (hl : L.length ≤ 16) (hbl : B.length ≤ 1000) (hbr : BusyR L B) :
    Calls Try.prog 11 #[ruv room hv bv, .int .i64 n] w fun e w' => ∃ bv', e = .returned (.tuple #[ruv room hv bv', .int .i64 (takeE L n).2]) ∧
      IntsAt w' bv' (takeB L B n) ∧ FrB w bv B bv' (takeB L B n) ∧ Below w.heap.size w w' := by
  have hst := RuW.start w room hv bv
  obtain ⟨W2, hW2⟩ : ∃ W2, (w.alloc (.cells #[.int .i64 room, hv, bv] 31)).alloc (.cells #[.int .i64 0, .slice none 0 0, .slice none 0 0] 31) = W2 := ⟨_, rfl⟩
  rw [hW2] at hst
  have HW2 := Lib.hid hW2
  obtain ⟨q2, j2, rfl⟩ := hb.form
  obtain ⟨q1, j1, rfl⟩ := RowsAt.form ha
  have hr2 := RowsAt.below ha (Nat.le_refl _) hst.b
  have hi2 := hb.below hst.b
  have GF := Lib.hid (refFind25_any _ L n W2 hr2 hok hl)
  have GI := Lib.hid (refIn_any _ B n W2 hi2 (by omega))
  rw [hbr.inL n] at GI
  have HST := Lib.hid hst
  have HA := Lib.hid fun w' (hq : Below w.heap.size w w') => hb.below hq
  have HI2 := Lib.hid hi2
  have c0 := hst.u.cell 0 rfl
  have c1 := hst.u.cell 1 rfl
  have c2 := hst.u.cell 2 rfl
  have z0 := hst.z.cell 0 rfl
  have z1 := hst.z.cell 1 rfl
  have z2 := hst.z.cell 2 rfl
  have f0 := hst.z.free 0 rfl
  have f1 := hst.z.free 1 rfl
  have f2 := hst.z.free 2 rfl
  obtain ⟨W9, e9, y0, y1, y2, hb9, -⟩ := hst.give (.int .i64 room) (.slice q1 (viewE L).length j1) (.slice q2 B.length j2)
  have E9 := Lib.hid e9
  have Y := Lib.hid (And.intro y0 (And.intro y1 y2))
  have HB9 := Lib.hid hb9
  have HBL := Lib.hid hbl
  clear e9 y0 y1 y2 hb9 hst hW2 hbr hi2 hb
  unfold takeB takeE
  cases hh : hasE L n with
  | false =>
    rw [if_neg (by simp), if_neg (show ¬ ((7 : Int) = 0) by decide)]
    rw [plcE_neg hh] at GF
    clear ha hok hl hh hr2 hbl
    go_enter Try.func11, Try.ntmps11
    go_upto_region 1 with fail
    rw [HW2.out]
    go_wp2_with (go_at_call 22; (with_reducible refine GF.out.mono ?_); rintro e w1 ⟨rfl, rfl⟩)
    rw [E9.out]
    exact bodyPost_ret (v := .tuple #[.agg #[.int .i64 room, .slice q1 (viewE L).length j1, .slice q2 B.length j2], .int .i64 7]) (by simp [results, Try.results11, go_sem, Y.out.1, Y.out.2.1, Y.out.2.2]) rfl ⟨_, rfl, HA.out _ HB9.out, .inl ⟨rfl, rfl⟩, HB9.out⟩
  | true =>
    rw [if_pos rfl]
    obtain ⟨hk, hd, he⟩ := hok.at hh
    have hkv : befE L n < (viewE L).length := by rw [viewE_len]; exact hk
    obtain ⟨g, o, cc, e, -, -, p0, p1, p2⟩ := hd_at hr2 _ hkv
    rw [viewE_get] at p0 p1 p2
    simp only [Value.slice.injEq] at e
    obtain ⟨rfl, -, rfl⟩ := e
    rw [busyE_at hh hd] at GI
    rw [hd]
    rw [plcE_pos hh] at GF
    have k0 : (0 : Int) ≤ ((befE L n : Nat) : Int) := by omega
    have k1 : ((befE L n : Nat) : Int) < ((viewE L).length : Int) := by omega
    have hvl : ((viewE L).length : Int) ≤ 16 := by rw [viewE_len]; omega
    generalize L[befE L n] = x at *
    obtain ⟨id, bi, xo, bu⟩ := x
    dsimp only [En.hd] at p0 p1 p2 GI ⊢
    generalize viewE L = H at *
    generalize befE L n = k at *
    clear ha hok hl hh hr2 hk hd he hkv hbl p0 p1
    cases xo with
    | false =>
      rw [if_neg (by simp [En.free]), if_neg (show ¬ ((12 : Int) = 0) by decide)]
      go_enter Try.func11, Try.ntmps11
      go_upto_region 1 with fail
      rw [HW2.out]
      go_wp2_with (go_at_call 22; (with_reducible refine GF.out.mono ?_); rintro e w1 ⟨rfl, rfl⟩)
      rw [E9.out]
      exact bodyPost_ret (v := .tuple #[.agg #[.int .i64 room, .slice (some ⟨g, o, none⟩) H.length j1, .slice q2 B.length j2], .int .i64 12]) (by simp [results, Try.results11, go_sem, Y.out.1, Y.out.2.1, Y.out.2.2]) rfl ⟨_, rfl, HA.out _ HB9.out, .inl ⟨rfl, rfl⟩, HB9.out⟩
    | true =>
      cases bu with
      | true =>
        rw [if_neg (by simp [En.free]), if_neg (show ¬ ((12 : Int) = 0) by decide)]
        go_enter Try.func11, Try.ntmps11
        go_upto_region 1 with fail
        rw [HW2.out]
        go_wp2_with (first
          | (go_at_call 22; (with_reducible refine GF.out.mono ?_); rintro e w1 ⟨rfl, rfl⟩)
          | (go_at_call 20; (with_reducible refine GI.out.mono ?_); rintro e w1 ⟨rfl, rfl⟩))
        rw [E9.out]
        exact bodyPost_ret (v := .tuple #[.agg #[.int .i64 room, .slice (some ⟨g, o, none⟩) H.length j1, .slice q2 B.length j2], .int .i64 12]) (by simp [results, Try.results11, go_sem, Y.out.1, Y.out.2.1, Y.out.2.2]) rfl ⟨_, rfl, HA.out _ HB9.out, .inl ⟨rfl, rfl⟩, HB9.out⟩
      | false =>
        rw [if_pos (by rfl), if_pos rfl]
        obtain ⟨i0, hi, hz0, hz1, hz2⟩ := info_parts info_int
        have hal := (Below.refl W2.heap.size W2).alloc (Nat.le_refl _) (.cells #[] 3)
        have HO := Lib.hid (OwnR.empty W2 1 csI 3 W2.heap.size rfl)
        have HB := Lib.hid hal
        have HA1 := Lib.hid (RowsAt.kept (IntsAt.rows HI2.out) hal)
        have HSA := Lib.hid (HST.out.kept hal)
        have d0 := HSA.out.u.cell 0 rfl
        have d1 := HSA.out.u.cell 1 rfl
        have d2 := HSA.out.u.cell 2 rfl
        have hLn : ([] ++ B ++ [n]).length = B.length + 1 := by simp
        clear z0 z1 z2 f0 f1 f2 hal HA HI2
        go_enter Try.func11, Try.ntmps11
        go_upto_region 1 with fail
        rw [HW2.out]
        go_wp2_with (first
          | (go_at_call 22; (with_reducible refine GF.out.mono ?_); rintro e w1 ⟨rfl, rfl⟩)
          | (go_at_call 20; (with_reducible refine GI.out.mono ?_); rintro e w1 ⟨rfl, rfl⟩)
          | (at_builtin; refine wpList_append_rows csI_len (by decide) csI_one13 rfl _ _ 24 rfl W2.heap.size 3 i0 (.int .i64 0) 8 Try.underlying24 hi hz0 hz1 hz2 rfl _ _ rfl HO.out _ B rfl HA1.out (by have := HBL.out; unfold maxLen; simp; omega) (by have := HBL.out; simp; omega) HB.out.size ?_; intro v2 w2 o2 g2; have HO2 := Lib.hid o2; have HB2 := Lib.hid (OwnR.below HO.out HB.out HB.out.size g2); clear o2 g2 HO)
          | (at_builtin; refine app1 HO2.out HB2.out.size (by have := HBL.out; simp; omega) rfl _ _ rfl rfl rfl ?_; intro v3 w3 o3 b3; obtain ⟨a3, i3, e⟩ := RowsAt.form (OwnR.rows csI_len o3); rw [hLn] at e; subst e; have HO3 := Lib.hid o3; have HR3 := Lib.hid (HST.out.kept (HB2.out.trans b3)); have c0 := HR3.out.u.cell 0 rfl; have c1 := HR3.out.u.cell 1 rfl; have c2 := HR3.out.u.cell 2 rfl; have g2 := HR3.out.u.free 2 rfl; have z0 := HR3.out.z.cell 0 rfl; have z1 := HR3.out.z.cell 1 rfl; have z2 := HR3.out.z.cell 2 rfl; have f0 := HR3.out.z.free 0 rfl; have f1 := HR3.out.z.free 1 rfl; have f2 := HR3.out.z.free 2 rfl; clear o3 b3))
        have hp := HR3.out.put2 (.slice a3 (B.length + 1) i3)
        obtain ⟨W8, e8, y0, y1, y2, hb8, ho8⟩ := hp.give (.int .i64 room) (.slice (some ⟨g, o, none⟩) H.length j1) (.slice a3 (B.length + 1) i3)
        have hq := (((Only.refl (fun k => k = w.heap.size ∨ k = w.heap.size + 1) w3).set ⟨w.heap.size, 2, none⟩ (.slice a3 (B.length + 1) i3) (.inl rfl)).trans (ho8.mono fun k h => .inr h))
        have hfin := HST.out.rows csI_len HO3.out hq
        rw [List.nil_append] at hfin
        rw [e8]
        exact bodyPost_ret (v := .tuple #[.agg #[.int .i64 room, .slice (some ⟨g, o, none⟩) H.length j1, .slice a3 (B.length + 1) i3], .int .i64 0]) (by simp [results, Try.results11, go_sem, y0, y1, y2]) rfl
          ⟨_, rfl, RowsAt.ints hfin, .inr fun k hk => Nat.le_trans HST.out.b.size (World.ownsRow.lt HO3.out k hk).1, hb8⟩
end Go.Proofs.Ytlgemfgikdaelaa
