/- Stage 19: the document's Ask, Grant, Leave, Same. -/
import Derived.Test.YtdoanlemoegikaaFifoRef
import Derived.Test.YtdoanlemoegikaaSideG
import Derived.Test.YtdoanlemoegikaaLks
import Derived.Deep.DeepCutAuto
namespace Go.Proofs.Ytdoanlemoegikaa
open Go.RowKit

/-- a lock as a value: its ID, its holder, those that wait -/
abbrev lkv (id h : Int) (v : Value) : Value := .agg #[.int .i64 id, .int .i64 h, v]
def askL (h : Int) (L : List Int) (t : Int) : List Int × Int := if t < 1 then (L, 1) else if h = t ∨ t ∈ L then (L, 6) else if 64 ≤ L.length then (L, 9) else (L ++ [t], 0)
def grantL (h : Int) (L : List Int) : Int × List Int × Int × Bool := if h = 0 then (match L with | [] => (h, L, 0, false) | x :: t => (x, t, x, true)) else (h, L, 0, false)
def leaveL (h : Int) (L : List Int) (t : Int) : Int × List Int × Int := if 0 < t ∧ h = t then (0, L, 2) else if wasF L t then (h, dropF L t, 1) else (h, L, 0)

set_option maxHeartbeats 4000000 in
set_option maxRecDepth 100000 in
theorem refAsk19_any (id h t : Int) (va : Value) (L : List Int) (W : World) (ha : IntsAt W va L) (hl : L.length ≤ 2000) :
    Calls Try.prog 8 #[lkv id h va, .int .i64 t] W fun e w' => ∃ v, e = .returned (.tuple #[lkv id h v, .int .i64 (askL h L t).2]) ∧ IntsAt w' v (askL h L t).1 ∧ FromV va v L.length (askL h L t).1.length W.heap.size ∧ Below W.heap.size W w' := by
  obtain ⟨a, c, rfl⟩ := ha.form
  obtain ⟨m, hm⟩ : ∃ m, L.length = m := ⟨_, rfl⟩
  rw [hm] at ha ⊢
  have a1 := (Below.refl W.heap.size W).alloc (Nat.le_refl _) (.cells #[.int .i64 id, .int .i64 h, .slice a m c] 28)
  have hX0 := Blk.new W [.int .i64 id, .int .i64 h, .slice a m c] 28
  have a2 := (Below.refl (W.alloc (.cells #[.int .i64 id, .int .i64 h, .slice a m c] 28)).heap.size _).alloc (Nat.le_refl _) (.cells #[.int .i64 0, .int .i64 0, .slice none 0 0] 28)
  have hY := Blk.new (W.alloc (.cells #[.int .i64 id, .int .i64 h, .slice a m c] 28)) [.int .i64 0, .int .i64 0, .slice none 0 0] 28
  rw [show (W.alloc (.cells #[.int .i64 id, .int .i64 h, .slice a m c] 28)).heap.size = W.heap.size + 1 by simp] at hY
  have hX := hX0.kept a2
  have HB := Lib.hid (a1.trans (a2.mono a1.size))
  have HB2 := Lib.hid (a1.trans (((Below.refl (W.alloc (.cells #[.int .i64 id, .int .i64 h, .slice a m c] 28)).heap.size _).alloc (Nat.le_refl _) (.cells #[.int .i64 id, .int .i64 h, .slice a m c] 28)).mono a1.size))
  have HA := Lib.hid ha
  have HX := Lib.hid hX
  have HY := Lib.hid hY
  have HL := Lib.hid hl
  have HM := Lib.hid hm
  have c0 := hX.cell 0 rfl
  have c1 := hX.cell 1 rfl
  have c2 := hX.cell 2 rfl
  have z0 := hY.free 0 rfl
  have z1 := hY.free 1 rfl
  have z2 := hY.free 2 rfl
  have d0 := hY.cell 0 rfl
  have d1 := hY.cell 1 rfl
  have d2 := hY.cell 2 rfl
  clear a1 a2 hX0 hX hY hl ha hm
  by_cases h1 : t < 1
  · have e1 : askL h L t = (L, 1) := by unfold askL; rw [if_pos h1]
    rw [e1]
    clear e1
    go_enter Try.func8, Try.ntmps8
    go_wp2
    refine bodyPost_ret (v := .tuple #[lkv id h (.slice a m c), .int .i64 1]) (by simp [results, Try.results8, go_sem]) rfl ⟨(.slice a m c), rfl, HA.out.below HB2.out, by rw [HM.out]; exact FromV.self _ _ _, HB2.out⟩
  have G := Lib.hid fun (w' : World) (hb : Below W.heap.size W w') => refIn_any (.slice a m c) L t w' (HA.out.below hb) (by have := HL.out; omega)
  have HF : h = t ∨ (h == t) = false := by
    by_cases e : h = t
    · exact .inl e
    · exact .inr (beq_noI e)
  by_cases h2 : h = t ∨ t ∈ L
  · have e1 : askL h L t = (L, 6) := by unfold askL; rw [if_neg h1, if_pos h2]
    rw [e1]
    clear e1
    by_cases h3 : h = t
    · subst h3
      clear h2 HF
      go_enter Try.func8, Try.ntmps8
      go_wp2
      refine bodyPost_ret (v := .tuple #[lkv id h (.slice a m c), .int .i64 6]) (by simp [results, Try.results8, go_sem]) rfl ⟨(.slice a m c), rfl, HA.out.below HB2.out, by rw [HM.out]; exact FromV.self _ _ _, HB2.out⟩
    · have h3b : (h == t) = false := beq_noI h3
      have h4 : inL L t = true := by rcases h2 with h | h; exact absurd h h3; simpa [inL] using h
      rw [h4] at G
      clear h2 HF h3 h4
      go_enter Try.func8, Try.ntmps8
      go_wp2_with (go_at_call 18; (with_reducible refine (G.out _ HB.out).mono ?_); rintro e w1 ⟨rfl, rfl⟩)
      refine bodyPost_ret (v := .tuple #[lkv id h (.slice a m c), .int .i64 6]) (by simp [results, Try.results8, go_sem]) rfl ⟨(.slice a m c), rfl, HA.out.below HB2.out, by rw [HM.out]; exact FromV.self _ _ _, HB2.out⟩
  have h4 : inL L t = false := by simp only [inL, decide_eq_false_iff_not]; exact fun h => h2 (.inr h)
  rw [h4] at G
  have h3b : (h == t) = false := beq_noI fun h => h2 (.inl h)
  by_cases h5 : 64 ≤ L.length
  · have e1 : askL h L t = (L, 9) := by unfold askL; rw [if_neg h1, if_neg h2, if_pos h5]
    rw [e1]
    have h6 : (64 : Int) ≤ (m : Int) := by have := HM.out; omega
    clear e1 h2 HF h4 h5
    go_enter Try.func8, Try.ntmps8
    go_wp2_with (go_at_call 18; (with_reducible refine (G.out _ HB.out).mono ?_); rintro e w1 ⟨rfl, rfl⟩)
    refine bodyPost_ret (v := .tuple #[lkv id h (.slice a m c), .int .i64 9]) (by simp [results, Try.results8, go_sem]) rfl ⟨(.slice a m c), rfl, HA.out.below HB2.out, by rw [HM.out]; exact FromV.self _ _ _, HB2.out⟩
  · have e1 : askL h L t = (L ++ [t], 0) := by unfold askL; rw [if_neg h1, if_neg h2, if_neg h5]
    rw [e1]
    have h6 : ¬ (64 : Int) ≤ (m : Int) := by have := HM.out; omega
    obtain ⟨W2, hW2⟩ : ∃ W2, (W.alloc (.cells #[.int .i64 id, .int .i64 h, .slice a m c] 28)).alloc (.cells #[.int .i64 0, .int .i64 0, .slice none 0 0] 28) = W2 := ⟨_, rfl⟩
    have hz2 : W2.heap.size = W.heap.size + 2 := by rw [← hW2]; simp
    obtain ⟨i0, hi, hz0, hz1, hz2'⟩ := info_parts info_int
    rw [hW2] at HB HX HY c0 c1 c2 z0 z1 z2 d0 d1 d2
    have hal := (Below.refl W2.heap.size W2).alloc (Nat.le_refl _) (.cells #[] 3)
    have HO := Lib.hid (OwnR.empty W2 1 csI 3 W2.heap.size rfl)
    have HAL := Lib.hid hal
    have HA1 := Lib.hid (RowsAt.kept (IntsAt.rows (HA.out.below HB.out)) hal)
    have HZ := Lib.hid hz2
    have HG := Lib.hid (G.out W2 HB.out)
    obtain ⟨mm, hmm⟩ : ∃ mm, ([] ++ L ++ [t]).length = mm := ⟨_, rfl⟩
    have HMM := Lib.hid hmm
    clear hmm
    have y2 := (HX.out.kept hal).cell 2 rfl
    clear e1 h2 HF h4 h5 hal hz2 G HB2
    go_enter Try.func8, Try.ntmps8
    go_upto_region 1 with fail
    clear hW2
    go_upto_region 8 with (first
      | (go_at_call 18; (with_reducible refine HG.out.mono ?_); rintro e w1 ⟨rfl, rfl⟩)
      | (at_builtin; refine wpList_append_rows csI_len (by decide) csI_one13 rfl _ _ 26 rfl W2.heap.size 3 i0 (.int .i64 0) 8 Try.underlying26 hi hz0 hz1 hz2' rfl _ _ rfl HO.out _ L rfl HA1.out (by have := HL.out; unfold maxLen; simp; omega) (by have := HL.out; simp; omega) HAL.out.size ?_; intro v2 w2 o2 g2; have HO2 := Lib.hid o2; have HB2 := Lib.hid (OwnR.below HO.out HAL.out HAL.out.size g2); clear o2 g2 HO)
      | (at_builtin; refine app1 HO2.out HB2.out.size (by have := HL.out; simp; omega) rfl _ _ rfl rfl rfl ?_; intro v3 w3 o3 b3; have HO3 := Lib.hid o3; have HB3 := Lib.hid (HB2.out.trans b3); obtain ⟨a3, c3, e3⟩ := RowsAt.form (OwnR.rows csI_len o3); rw [HMM.out] at e3; subst e3; have x2 := (HX.out.kept HB3.out).cell 2 rfl; have x3 := (HX.out.kept HB3.out).free 2 rfl; clear o3 b3))
    have hx4 := (HX.out.kept HB3.out).set 2 (.slice a3 mm c3)
    have hy4 := (HY.out.kept HB3.out).away ⟨W.heap.size, 2, none⟩ (.slice a3 mm c3) (by simp)
    have k0 := hx4.cell 0 rfl
    have k1 := hx4.cell 1 rfl
    have k2 := hx4.cell 2 rfl
    have l0 := hy4.cell 0 rfl
    have l1 := hy4.cell 1 rfl
    have l2 := hy4.cell 2 rfl
    have f0 := hy4.free 0 rfl
    have f1 := hy4.free 1 rfl
    have f2 := hy4.free 2 rfl
    have HU := Lib.hid (((hy4.set 0 (.int .i64 id)).set 1 (.int .i64 h)).set 2 (.slice a3 mm c3))
    have HB4 := Lib.hid ((((HB.out.trans (HB3.out.mono (by have := HZ.out; omega))).setCell (p := ⟨W.heap.size, 2, none⟩) (by simp) (.slice a3 mm c3)).setCell (p := ⟨W.heap.size + 1, 0, none⟩) (by simp) (.int .i64 id)).setCell (p := ⟨W.heap.size + 1, 1, none⟩) (by simp) (.int .i64 h) |>.setCell (p := ⟨W.heap.size + 1, 2, none⟩) (by simp) (.slice a3 mm c3))
    have HI := Lib.hid (show IntsAt ((((w3.setCell ⟨W.heap.size, 2, none⟩ (.slice a3 mm c3)).setCell ⟨W.heap.size + 1, 0, none⟩ (.int .i64 id)).setCell ⟨W.heap.size + 1, 1, none⟩ (.int .i64 h)).setCell ⟨W.heap.size + 1, 2, none⟩ (.slice a3 mm c3)) (.slice a3 mm c3) (L ++ [t]) from by
      have hz := HZ.out
      have h0 := HO3.out.from_ (va := .slice none 0 0) (n := 0) (n' := 1)
      have hr := OwnR.rows csI_len HO3.out
      refine RowsAt.ints (RowsAt.same (w := w3) hr (by simp [World.setCell]) fun _ g hg => ?_)
      rcases h0 (by omega) g hg with ⟨h, _⟩ | h
      · cases h
      · rw [Below.heap_setCell _ _ _ _ (by simp; omega), Below.heap_setCell _ _ _ _ (by simp; omega), Below.heap_setCell _ _ _ _ (by simp; omega), Below.heap_setCell _ _ _ _ (by simp; omega)])
    have HFV := Lib.hid (show FromV (.slice a m c) (.slice a3 mm c3) m (L ++ [t]).length W.heap.size from fun h0 k hk => by
      rcases HO3.out.from_ (va := .slice none 0 0) (n := 0) (n' := 1) (by omega) k hk with ⟨h, _⟩ | h
      · cases h
      · exact .inr (by have := HZ.out; omega))
    clear HO2 HB2 HAL HA1
    have r0 := HU.out.cell 0 rfl
    have r1 := HU.out.cell 1 rfl
    have r2 := HU.out.cell 2 rfl
    go_wp2
    refine bodyPost_ret (v := .tuple #[lkv id h (.slice a3 mm c3), .int .i64 0]) ?_ rfl ⟨_, rfl, HI.out, HFV.out, HB4.out⟩
    simp [results, Try.results8, go_sem, r0, r1, r2]

/-- a box that holds a lock, and one for the answer behind it -/
structure Two19 (W : World) (id h : Int) (v : Value) (w : World) : Prop where
  box : Blk w W.heap.size [.int .i64 id, .int .i64 h, v]
  ans : Blk w (W.heap.size + 1) [.int .i64 0, .int .i64 0, .slice none 0 0]
  below : Below W.heap.size W w
theorem two19_new (W : World) (id h : Int) (v : Value) : Two19 W id h v ((W.alloc (.cells #[.int .i64 id, .int .i64 h, v] 28)).alloc (.cells #[.int .i64 0, .int .i64 0, .slice none 0 0] 28)) := by
  have a1 := (Below.refl W.heap.size W).alloc (Nat.le_refl _) (.cells #[.int .i64 id, .int .i64 h, v] 28)
  have hX0 := Blk.new W [.int .i64 id, .int .i64 h, v] 28
  have a2 := (Below.refl (W.alloc (.cells #[.int .i64 id, .int .i64 h, v] 28)).heap.size _).alloc (Nat.le_refl _) (.cells #[.int .i64 0, .int .i64 0, .slice none 0 0] 28)
  have hY := Blk.new (W.alloc (.cells #[.int .i64 id, .int .i64 h, v] 28)) [.int .i64 0, .int .i64 0, .slice none 0 0] 28
  rw [show (W.alloc (.cells #[.int .i64 id, .int .i64 h, v] 28)).heap.size = W.heap.size + 1 by simp] at hY
  exact ⟨hX0.kept a2, hY, a1.trans (a2.mono a1.size)⟩
/-- the answer is written -/
theorem Two19.put {W w : World} {id h id' h' : Int} {v v' : Value} (T : Two19 W id h v w) :
    Blk (((w.setCell ⟨W.heap.size + 1, 0, none⟩ (.int .i64 id')).setCell ⟨W.heap.size + 1, 1, none⟩ (.int .i64 h')).setCell ⟨W.heap.size + 1, 2, none⟩ v') (W.heap.size + 1) [.int .i64 id', .int .i64 h', v'] ∧
    Below W.heap.size W (((w.setCell ⟨W.heap.size + 1, 0, none⟩ (.int .i64 id')).setCell ⟨W.heap.size + 1, 1, none⟩ (.int .i64 h')).setCell ⟨W.heap.size + 1, 2, none⟩ v') :=
  ⟨((T.ans.set 0 (.int .i64 id')).set 1 (.int .i64 h')).set 2 v', ((T.below.setCell (p := ⟨W.heap.size + 1, 0, none⟩) (by simp) (.int .i64 id')).setCell (p := ⟨W.heap.size + 1, 1, none⟩) (by simp) (.int .i64 h')).setCell (p := ⟨W.heap.size + 1, 2, none⟩) (by simp) v'⟩
theorem Two19.hold {W w : World} {id h h' : Int} {v : Value} (T : Two19 W id h v w) : Two19 W id h' v (w.setCell ⟨W.heap.size, 1, none⟩ (.int .i64 h')) :=
  ⟨T.box.set 1 (.int .i64 h'), T.ans.away _ _ (by simp), T.below.setCell (p := ⟨W.heap.size, 1, none⟩) (by simp) _⟩
theorem Two19.wait {W w : World} {id h : Int} {v v' : Value} (T : Two19 W id h v w) : Two19 W id h v' (w.setCell ⟨W.heap.size, 2, none⟩ v') :=
  ⟨T.box.set 2 v', T.ans.away _ _ (by simp), T.below.setCell (p := ⟨W.heap.size, 2, none⟩) (by simp) _⟩
theorem Two19.kept {W w w' : World} {id h : Int} {v : Value} (T : Two19 W id h v w) (hb : Below w.heap.size w w') : Two19 W id h v w' := ⟨T.box.kept hb, T.ans.kept hb, T.below.trans (hb.mono T.below.size)⟩

set_option maxHeartbeats 4000000 in
set_option maxRecDepth 100000 in
theorem refLeave19_any (id h t : Int) (va : Value) (L : List Int) (W : World) (ha : IntsAt W va L) (hl : L.length ≤ 2000) :
    Calls Try.prog 12 #[lkv id h va, .int .i64 t] W fun e w' => ∃ v, e = .returned (.tuple #[lkv id (leaveL h L t).1 v, .int .i64 (leaveL h L t).2.2]) ∧ IntsAt w' v (leaveL h L t).2.1 ∧ FromV va v L.length (leaveL h L t).2.1.length W.heap.size ∧ Below W.heap.size W w' := by
  obtain ⟨a, c, rfl⟩ := ha.form
  obtain ⟨m, hm⟩ : ∃ m, L.length = m := ⟨_, rfl⟩
  rw [hm] at ha ⊢
  have T0 := two19_new W id h (.slice a m c)
  obtain ⟨W2, hW2⟩ : ∃ W2, (W.alloc (.cells #[.int .i64 id, .int .i64 h, .slice a m c] 28)).alloc (.cells #[.int .i64 0, .int .i64 0, .slice none 0 0] 28) = W2 := ⟨_, rfl⟩
  rw [hW2] at T0
  have HT := Lib.hid T0
  have HA := Lib.hid ha
  have HM := Lib.hid hm
  have HL := Lib.hid hl
  have c0 := T0.box.cell 0 rfl
  have c1 := T0.box.cell 1 rfl
  have c2 := T0.box.cell 2 rfl
  have z1 := T0.box.free 1 rfl
  have z2 := T0.box.free 2 rfl
  have d0 := T0.ans.cell 0 rfl
  have d1 := T0.ans.cell 1 rfl
  have d2 := T0.ans.cell 2 rfl
  have f0 := T0.ans.free 0 rfl
  have f1 := T0.ans.free 1 rfl
  have f2 := T0.ans.free 2 rfl
  clear T0 ha hm hl
  by_cases h1 : 0 < t ∧ h = t
  · have e1 : leaveL h L t = (0, L, 2) := by unfold leaveL; rw [if_pos h1]
    rw [e1]
    obtain ⟨h1, rfl⟩ := h1
    obtain ⟨U, B⟩ := (HT.out.hold (h' := 0)).put (id' := id) (h' := 0) (v' := .slice a m c)
    have HB := Lib.hid B
    have r0 := U.cell 0 rfl
    have r1 := U.cell 1 rfl
    have r2 := U.cell 2 rfl
    clear e1 U B
    go_enter Try.func12, Try.ntmps12
    go_wp2
    refine bodyPost_ret (v := .tuple #[lkv id 0 (.slice a m c), .int .i64 2]) ?_ rfl ⟨_, rfl, HA.out.below HB.out, by rw [HM.out]; exact FromV.self _ _ _, HB.out⟩
    simp [results, Try.results12, go_sem, r0, r1, r2]
  · have HD := Lib.hid (refDropF_any (.slice a m c) L t W2 (HA.out.below HT.out.below) HL.out)
    have hb : decide (0 < t) = false ∨ (decide (0 < t) = true ∧ (h == t) = false) := by
      by_cases h2 : 0 < t
      · exact .inr ⟨by simpa using h2, beq_noI fun h => h1 ⟨h2, h⟩⟩
      · exact .inl (by simpa using h2)
    cases hw : wasF L t with
    | true =>
      have e1 : leaveL h L t = (h, dropF L t, 1) := by unfold leaveL; rw [if_neg h1, if_pos hw]
      rw [e1]
      rw [hw] at HD
      generalize dropF L t = D at *
      clear e1 hw h1
      obtain ⟨dl, hdl⟩ : ∃ dl, D.length = dl := ⟨_, rfl⟩
      have HDL := Lib.hid hdl
      clear hdl
      rcases hb with hb | ⟨hb, hb2⟩
      all_goals
        go_enter Try.func12, Try.ntmps12
        go_upto_region 6 with (go_at_call 21; (with_reducible refine HD.out.mono ?_); rintro e w3 ⟨v3, rfl, o3, b3⟩; have HO3 := Lib.hid o3; have HB3 := Lib.hid b3; obtain ⟨a3, c3, e3⟩ := RowsAt.form (OwnR.rows csI_len o3); rw [HDL.out] at e3; subst e3; clear o3 b3)
        clear c0 c1 c2 z1 z2 d0 d1 d2 f0 f1 f2 hW2
        have HT3 := Lib.hid (HT.out.kept HB3.out)
        have HT4 := Lib.hid (HT3.out.wait (v' := .slice a3 dl c3))
        obtain ⟨U, B⟩ := HT4.out.put (id' := id) (h' := h) (v' := .slice a3 dl c3)
        have HB := Lib.hid B
        have HU := Lib.hid U
        have c2 := HT3.out.box.cell 2 rfl
        have z2 := HT3.out.box.free 2 rfl
        have k0 := HT4.out.box.cell 0 rfl
        have k1 := HT4.out.box.cell 1 rfl
        have k2 := HT4.out.box.cell 2 rfl
        have d0 := HT4.out.ans.cell 0 rfl
        have d1 := HT4.out.ans.cell 1 rfl
        have d2 := HT4.out.ans.cell 2 rfl
        have f0 := HT4.out.ans.free 0 rfl
        have f1 := HT4.out.ans.free 1 rfl
        have f2 := HT4.out.ans.free 2 rfl
        have r0 := U.cell 0 rfl
        have r1 := U.cell 1 rfl
        have r2 := U.cell 2 rfl
        have HZ := Lib.hid (show W.heap.size + 2 ≤ W2.heap.size from (Blk.lt HT.out.ans))
        have HI := Lib.hid (show IntsAt ((((w3.setCell ⟨W.heap.size, 2, none⟩ (.slice a3 dl c3)).setCell ⟨W.heap.size + 1, 0, none⟩ (.int .i64 id)).setCell ⟨W.heap.size + 1, 1, none⟩ (.int .i64 h)).setCell ⟨W.heap.size + 1, 2, none⟩ (.slice a3 dl c3)) (.slice a3 dl c3) D from by
          have hz := HZ.out
          have h0 := HO3.out.from_ (va := .slice none 0 0) (n := 0) (n' := 1)
          have hr := OwnR.rows csI_len HO3.out
          refine RowsAt.ints (RowsAt.same (w := w3) hr (by simp [World.setCell]) fun _ g hg => ?_)
          rcases h0 (by omega) g hg with ⟨h, _⟩ | h
          · cases h
          · rw [Below.heap_setCell _ _ _ _ (by simp; omega), Below.heap_setCell _ _ _ _ (by simp; omega), Below.heap_setCell _ _ _ _ (by simp; omega), Below.heap_setCell _ _ _ _ (by simp; omega)])
        have HFV := Lib.hid (show FromV (.slice a m c) (.slice a3 dl c3) m D.length W.heap.size from fun h0 k hk => by
          rcases HO3.out.from_ (va := .slice none 0 0) (n := 0) (n' := 1) (by omega) k hk with ⟨h, _⟩ | h
          · cases h
          · exact .inr (by have := HZ.out; omega))
        clear U B
        go_wp2
        refine bodyPost_ret (v := .tuple #[lkv id h (.slice a3 dl c3), .int .i64 1]) ?_ rfl ⟨_, rfl, HI.out, HFV.out, HB.out⟩
        simp [results, Try.results12, go_sem, r0, r1, r2]
    | false =>
      have e1 : leaveL h L t = (h, L, 0) := by unfold leaveL; rw [if_neg h1, if_neg (by simp [hw])]
      rw [e1]
      rw [hw] at HD
      clear e1 hw h1
      rcases hb with hb | ⟨hb, hb2⟩
      all_goals
        go_enter Try.func12, Try.ntmps12
        go_upto_region 8 with (go_at_call 21; (with_reducible refine HD.out.mono ?_); rintro e w3 ⟨v3, rfl, o3, b3⟩; have HB3 := Lib.hid b3; clear o3 b3)
        clear c0 c1 c2 z1 z2 d0 d1 d2 f0 f1 f2 hW2
        have HT4 := Lib.hid (HT.out.kept HB3.out)
        obtain ⟨U, B⟩ := HT4.out.put (id' := id) (h' := h) (v' := .slice a m c)
        have HB := Lib.hid B
        have k0 := HT4.out.box.cell 0 rfl
        have k1 := HT4.out.box.cell 1 rfl
        have k2 := HT4.out.box.cell 2 rfl
        have d0 := HT4.out.ans.cell 0 rfl
        have d1 := HT4.out.ans.cell 1 rfl
        have d2 := HT4.out.ans.cell 2 rfl
        have f0 := HT4.out.ans.free 0 rfl
        have f1 := HT4.out.ans.free 1 rfl
        have f2 := HT4.out.ans.free 2 rfl
        have r0 := U.cell 0 rfl
        have r1 := U.cell 1 rfl
        have r2 := U.cell 2 rfl
        clear U B
        go_wp2
        refine bodyPost_ret (v := .tuple #[lkv id h (.slice a m c), .int .i64 0]) ?_ rfl ⟨_, rfl, HA.out.below HB.out, by rw [HM.out]; exact FromV.self _ _ _, HB.out⟩
        simp [results, Try.results12, go_sem, r0, r1, r2]

set_option maxHeartbeats 4000000 in
set_option maxRecDepth 100000 in
theorem refSame19_any (id h id' h' : Int) (va vb : Value) (L M : List Int) (W : World) (ha : IntsAt W va L) (hb : IntsAt W vb M) (hl : L.length ≤ 2000) (hm : M.length ≤ 2000) :
    Calls Try.prog 14 #[lkv id h va, lkv id' h' vb] W fun e w' => e = .returned (.bool (decide (id = id' ∧ h = h' ∧ L = M))) ∧ Below W.heap.size W w' := by
  obtain ⟨a, c, rfl⟩ := ha.form
  obtain ⟨b, d, rfl⟩ := hb.form
  have a1 := (Below.refl W.heap.size W).alloc (Nat.le_refl _) (.cells #[.int .i64 id, .int .i64 h, .slice a L.length c] 28)
  have hX0 := Blk.new W [.int .i64 id, .int .i64 h, .slice a L.length c] 28
  have a2 := (Below.refl (W.alloc (.cells #[.int .i64 id, .int .i64 h, .slice a L.length c] 28)).heap.size _).alloc (Nat.le_refl _) (.cells #[.int .i64 id', .int .i64 h', .slice b M.length d] 28)
  have hY := Blk.new (W.alloc (.cells #[.int .i64 id, .int .i64 h, .slice a L.length c] 28)) [.int .i64 id', .int .i64 h', .slice b M.length d] 28
  rw [show (W.alloc (.cells #[.int .i64 id, .int .i64 h, .slice a L.length c] 28)).heap.size = W.heap.size + 1 by simp] at hY
  have hX := hX0.kept a2
  have HB := Lib.hid (a1.trans (a2.mono a1.size))
  have HI := Lib.hid (refInts_any (.slice a L.length c) (.slice b M.length d) L M _ (ha.below HB.out) (hb.below HB.out) (by omega) (by omega))
  have c0 := hX.cell 0 rfl
  have c1 := hX.cell 1 rfl
  have c2 := hX.cell 2 rfl
  have d0 := hY.cell 0 rfl
  have d1 := hY.cell 1 rfl
  have d2 := hY.cell 2 rfl
  clear a1 a2 hX0 hX hY ha hb hl hm
  by_cases e1 : id = id'
  · subst e1
    by_cases e2 : h = h'
    · subst e2
      have e3 : decide (id = id ∧ h = h ∧ L = M) = decide (L = M) := by simp
      rw [e3]
      clear e3
      generalize decide (L = M) = r at *
      generalize L.length = ll at *
      generalize M.length = ml at *
      go_enter Try.func14, Try.ntmps14
      go_wp2_with (go_at_call 23; (with_reducible refine HI.out.mono ?_); rintro e w3 ⟨rfl, b3⟩; have HB3 := Lib.hid (HB.out.trans (b3.mono HB.out.size)); clear b3)
      go_ret
      exact ⟨rfl, HB3.out⟩
    · have e3 : decide (id = id ∧ h = h' ∧ L = M) = false := by simp [e2]
      have e4 : (h == h') = false := beq_noI e2
      rw [e3]
      clear e3 e2
      generalize L.length = ll at *
      generalize M.length = ml at *
      go_enter Try.func14, Try.ntmps14
      go_wp2
      go_ret
      exact ⟨rfl, HB.out⟩
  · have e3 : decide (id = id' ∧ h = h' ∧ L = M) = false := by simp [e1]
    have e4 : (id == id') = false := beq_noI e1
    rw [e3]
    clear e3 e1
    generalize L.length = ll at *
    generalize M.length = ml at *
    go_enter Try.func14, Try.ntmps14
    go_wp2
    go_ret
    exact ⟨rfl, HB.out⟩
end Go.Proofs.Ytdoanlemoegikaa
