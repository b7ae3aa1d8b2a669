/- Stage 19: the document's Grant. -/
import Derived.Test.YtdoanlemoegikaaLockRef
import Derived.Test.YtdoanlemoegikaaFifoLawD
namespace Go.Proofs.Ytdoanlemoegikaa
open Go.RowKit

set_option maxHeartbeats 4000000 in
set_option maxRecDepth 100000 in
theorem refGrant19_any (id h : Int) (va : Value) (L : List Int) (W : World) (ha : IntsAt W va L) :
    Calls Try.prog 10 #[lkv id h va] W fun e w' => ∃ v, e = .returned (.tuple #[lkv id (grantL h L).1 v, .int .i64 (grantL h L).2.2.1, .bool (grantL h L).2.2.2]) ∧ IntsAt w' v (grantL h L).2.1 ∧ FromV va v L.length (grantL h L).2.1.length W.heap.size ∧ Below W.heap.size W w' := by
  obtain ⟨a, c, rfl⟩ := ha.form
  obtain ⟨m, hm⟩ : ∃ m, L.length = m := ⟨_, rfl⟩
  rw [hm] at ha ⊢
  have T0 := two19_new W id h (.slice a m c)
  obtain ⟨W2, hW2⟩ : ∃ W2, (W.alloc (.cells #[.int .i64 id, .int .i64 h, .slice a m c] 28)).alloc (.cells #[.int .i64 0, .int .i64 0, .slice none 0 0] 28) = W2 := ⟨_, rfl⟩
  rw [hW2] at T0
  have HT := Lib.hid T0
  have HA := Lib.hid ha
  have HM := Lib.hid hm
  have c0 := T0.box.cell 0 rfl
  have c1 := T0.box.cell 1 rfl
  have c2 := T0.box.cell 2 rfl
  have z1 := T0.box.free 1 rfl
  have z2 := T0.box.free 2 rfl
  have d0 := T0.ans.cell 0 rfl
  have d1 := T0.ans.cell 1 rfl
  have d2 := T0.ans.cell 2 rfl
  have f0 := T0.ans.free 0 rfl
  have f1 := T0.ans.free 1 rfl
  have f2 := T0.ans.free 2 rfl
  clear T0 ha hm
  by_cases h1 : h = 0
  · subst h1
    cases L with
    | nil =>
      have e1 : grantL 0 [] = (0, [], 0, false) := by simp [grantL]
      rw [e1]
      have hm0 : m = 0 := HM.out.symm
      subst hm0
      obtain ⟨U, B⟩ := HT.out.put (id' := id) (h' := 0) (v' := .slice a 0 c)
      have HB := Lib.hid B
      have r0 := U.cell 0 rfl
      have r1 := U.cell 1 rfl
      have r2 := U.cell 2 rfl
      clear e1 U B
      go_enter Try.func10, Try.ntmps10
      go_wp2
      refine bodyPost_ret (v := .tuple #[lkv id 0 (.slice a 0 c), .int .i64 0, .bool false]) ?_ rfl ⟨_, rfl, HA.out.below HB.out, FromV.self _ _ _, HB.out⟩
      simp [results, Try.results10, go_sem, r0, r1, r2]
    | cons x t =>
      have e1 : grantL 0 (x :: t) = (x, t, x, true) := by simp [grantL]
      rw [e1]
      have hm1 : 1 ≤ m := by have := HM.out; simp at this; omega
      have hmb : ((m : Int) == 0) = false := beq_noI (by omega)
      have hmb2 : (m == 0) = false := by simp; omega
      have hlt : (0 : Int) < (m : Int) := by omega
      obtain ⟨g1, o1, cc1, e3, hcc, hg1, hc3⟩ := (IntsAt.rows HA.out).spot 0 (by simp)
      rw [HM.out] at e3 hcc
      obtain ⟨rfl, rfl⟩ : a = some ⟨g1, o1, none⟩ ∧ c = cc1 := by
        simp only [Value.slice.injEq] at e3
        exact ⟨e3.1, e3.2.2⟩
      have q0 : W2.cell? ⟨g1, o1, none⟩ = some (.int .i64 x) := (HT.out.below.cell hg1).trans (hc3 0 _ rfl)
      have hgW : g1 ≠ W.heap.size := by omega
      have q1 : (W2.setCell ⟨W.heap.size, 1, none⟩ (.int .i64 x)).cell? ⟨g1, o1, none⟩ = some (.int .i64 x) := (World.cell?_of_block (a := ⟨g1, o1, none⟩) (Below.heap_setCell W2 ⟨W.heap.size, 1, none⟩ (.int .i64 x) g1 hgW)).trans q0
      obtain ⟨a4, c4, hsl, hrest, hob⟩ := from18 (some ⟨g1, o1, none⟩) m c hm1 hcc
      have HT1 := Lib.hid (HT.out.hold (h' := x))
      have HT2 := Lib.hid (HT1.out.wait (v' := .slice a4 (m - 1) c4))
      obtain ⟨U, B⟩ := HT2.out.put (id' := id) (h' := x) (v' := .slice a4 (m - 1) c4)
      have HB := Lib.hid B
      have HU := Lib.hid U
      have HI := Lib.hid (show IntsAt W (.slice a4 (m - 1) c4) t from RowsAt.ints (hrest W (x :: t) HM.out (IntsAt.rows HA.out)))
      have HFV := Lib.hid (show FromV (.slice (some ⟨g1, o1, none⟩) m c) (.slice a4 (m - 1) c4) m t.length W.heap.size from fun _ k hk => .inl ⟨hob k hk, by omega⟩)
      obtain ⟨m1, hm1'⟩ : ∃ m1, m - 1 = m1 := ⟨_, rfl⟩
      have j1 := HT1.out.box.cell 2 rfl
      have j2 := HT1.out.box.free 2 rfl
      have k0 := HT2.out.box.cell 0 rfl
      have k1 := HT2.out.box.cell 1 rfl
      have k2 := HT2.out.box.cell 2 rfl
      have l0 := HT2.out.ans.cell 0 rfl
      have l1 := HT2.out.ans.cell 1 rfl
      have l2 := HT2.out.ans.cell 2 rfl
      have g0 := HT2.out.ans.free 0 rfl
      have g2 := HT2.out.ans.free 1 rfl
      have g3 := HT2.out.ans.free 2 rfl
      rw [hm1'] at hsl k0 k1 k2 l0 l1 l2 g0 g2 g3 HU HB HI HFV HT2
      clear e1 U B e3 hcc hg1 hc3 hrest hob hgW hm1' hm1
      go_enter Try.func10, Try.ntmps10
      go_upto_region 5 with fail
      clear hW2 c0 c1 c2 z1 z2 d0 d1 d2 f0 f1 f2 q0 q1 j1 j2 hsl
      generalize (W2.setCell ⟨W.heap.size, 1, none⟩ (.int .i64 x)).setCell ⟨W.heap.size, 2, none⟩ (.slice a4 m1 c4) = w5 at *
      obtain ⟨U, B⟩ := HT2.out.put (id' := id) (h' := x) (v' := .slice a4 m1 c4)
      have HB2 := Lib.hid B.drew
      have r0 := (HT2.out.ans.set 0 (.int .i64 id)).cell 0 rfl
      have r1 := ((HT2.out.ans.set 0 (.int .i64 id)).set 1 (.int .i64 x)).cell 1 rfl
      have r2 := U.cell 2 rfl
      clear U B HT1 HU HB
      go_region
      all_goals
        go_wp2
        refine bodyPost_ret (v := .tuple #[lkv id x (.slice a4 m1 c4), .int .i64 x, .bool true]) ?_ rfl ⟨_, rfl, HI.out.below HB2.out, HFV.out, HB2.out⟩
        simp [results, Try.results10, go_sem, r0, r1, r2]
  · have e1 : grantL h L = (h, L, 0, false) := by unfold grantL; rw [if_neg h1]
    have e2 : (h != 0) = true := by simp [h1]
    rw [e1]
    obtain ⟨U, B⟩ := HT.out.put (id' := id) (h' := h) (v' := .slice a m c)
    have HB := Lib.hid B
    have r0 := U.cell 0 rfl
    have r1 := U.cell 1 rfl
    have r2 := U.cell 2 rfl
    clear e1 U B h1
    go_enter Try.func10, Try.ntmps10
    go_wp2
    refine bodyPost_ret (v := .tuple #[lkv id h (.slice a m c), .int .i64 0, .bool false]) ?_ rfl ⟨_, rfl, HA.out.below HB.out, by rw [HM.out]; exact FromV.self _ _ _, HB.out⟩
    simp [results, Try.results10, go_sem, r0, r1, r2]
end Go.Proofs.Ytdoanlemoegikaa
