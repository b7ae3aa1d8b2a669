/- Stage 13: the document's Put, Find, IDs. -/
import Derived.Test.YtiaiappoodjpdaaHeapRefA
namespace Go.Proofs.Ytiaiappoodjpdaa
open Go.RowKit

/-- what is still to be gathered -/
def restT (x : Th) (d : Bool) (l : List Th) : List Th := if d then l else insT x l
theorem restT_step (x r : Th) (l : List Th) (d : Bool) : restT x d (r :: l) = (if !d && ahead x r then [x] else []) ++ r :: restT x (d || ahead x r) l := by
  unfold restT
  cases d
  · cases h : ahead x r <;> simp [insT, h]
  · simp

set_option maxHeartbeats 8000000 in
set_option maxRecDepth 100000 in
theorem refPut13_any (va : Value) (l : List Th) (x : Th) (W : World) (ha : ThAt W va l) (hl : l.length ≤ 1000000) :
    Calls Try.prog 8 #[va, .agg #[.int .i64 x.id, .int .i64 x.key, .int .i64 x.seq]] W fun e w' => ∃ v, e = .returned (.tuple #[v, .bool (!hasT l x.id)]) ∧ OwnT w' W.heap.size v (putT l x) ∧ Below W.heap.size W w' := by
  obtain ⟨i0, hi, hz0, hz1, hz2⟩ := info_parts info_th
  have hbel := (Below.refl W.heap.size W).alloc (Nat.le_refl _) (.cells #[.int .i64 x.id, .int .i64 x.key, .int .i64 x.seq] 28)
  have G1 := Lib.hid (refDrop13_any va l x.id _ (RowsAt.kept ha hbel) hl)
  have hdl := dropT_len l x.id
  have hput : putT l x = restT x false (dropT l x.id) := rfl
  have hX := Blk.new W [.int .i64 x.id, .int .i64 x.key, .int .i64 x.seq] 28
  rw [hput]
  generalize hasT l x.id = h at *
  generalize dropT l x.id = R at *
  obtain ⟨a, c, rfl⟩ := RowsAt.form ha
  have HBEL := Lib.hid hbel
  have HX := Lib.hid hX
  obtain ⟨P, hP⟩ : ∃ P, restT x false R = P := ⟨_, rfl⟩
  rw [hP]
  have HPP := Lib.hid hP
  clear ha hbel hput hX hP
  go_enter Try.func8, Try.ntmps8
  go_upto_region 2 with (go_at_call 10; (with_reducible refine G1.out.mono ?_); rintro e w1 ⟨v1, rfl, ho1, hb1⟩; obtain ⟨a1, c1, e1⟩ := RowsAt.form (OwnR.rows csT_len ho1); subst e1; have HR1 := Lib.hid (OwnR.rows csT_len ho1); have HB1 := Lib.hid (HBEL.out.trans (hb1.mono HBEL.out.size)); have HX1 := Lib.hid (HX.out.kept hb1); clear ho1 hb1)
  go_wp2
  go_loopw [8, 9, 10] (fun ov dv iv wr => ∃ (k : Nat) (out : List Th) (d : Bool), k ≤ R.length ∧ iv = .int .i64 k ∧ dv = .bool d ∧ OwnT wr w1.heap.size ov out ∧ out.length ≤ k + d.toNat ∧ P = out ++ restT x d (R.drop k) ∧ Below w1.heap.size w1 wr) (fun _ _ iv _ => R.length - (intOf iv).toNat)
  case atStart => exact ⟨0, [], false, by omega, rfl, rfl, OwnR.nil _ _ _ _ _, by simp, by rw [HPP.out.symm]; rfl, Below.refl _ _⟩
  case round =>
    obtain ⟨k, out, d, hk, rfl, rfl, ho, hol, hPe, hB1⟩ := hrel
    have hdl1 := Bool.toNat_le d
    have HX0 := Lib.hid (fun w' (hb : Below w1.heap.size w1 w') => (HX1.out.kept hb).cell 0 rfl)
    have HXA := Lib.hid (fun w' (hb : Below w1.heap.size w1 w') => (HX1.out.kept hb).cell 1 rfl)
    have HXB := Lib.hid (fun w' (hb : Below w1.heap.size w1 w') => (HX1.out.kept hb).cell 2 rfl)
    have x0 := HX0.out _ hB1
    have x1 := HXA.out _ hB1
    have x2 := HXB.out _ hB1
    by_cases hlt : k < R.length
    · obtain ⟨g, o, cc, e, _, hg, c0, c1', c2⟩ := ThAt.at HR1.out k hlt
      cases e
      have hdr : R.drop k = R[k] :: R.drop (k + 1) := List.drop_eq_getElem_cons hlt
      rw [hdr, restT_step] at hPe
      have k0 : (0 : Int) ≤ (k : Int) := by omega
      have k1 : (k : Int) < (R.length : Int) := by omega
      have HG := Lib.hid fun w => refAhead_any x R[k] w
      generalize R[k] = r at *
      have HC0 := Lib.hid (fun w' (hb : Below w1.heap.size w1 w') => (hb.cell (p := ⟨g, o + k * 3, none⟩) hg).trans c0)
      have HC1 := Lib.hid (fun w' (hb : Below w1.heap.size w1 w') => (hb.cell (p := ⟨g, o + k * 3 + 1, none⟩) hg).trans c1')
      have HC2 := Lib.hid (fun w' (hb : Below w1.heap.size w1 w') => (hb.cell (p := ⟨g, o + k * 3 + 2, none⟩) hg).trans c2)
      have p0 := HC0.out _ hB1
      have p1 := HC1.out _ hB1
      have p2 := HC2.out _ hB1
      have HB2 := Lib.hid hB1
      have HO := Lib.hid ho
      have HPE := Lib.hid hPe
      have k2 : k < R.length := hlt
      clear c0 c1' c2 hdr ho hB1 hPe hlt
      generalize ahead x r = t at *
      cases d with
      | true =>
        go_wp2
        refine wp_region_calm0 (by kernel_rfl) (by kernel_rfl) fun M => ?_
        repeat (go_big_quiet_step (fail))
        refine wpQuiet_nil ?_
        intro w2 hb2
        have hB3 := HB2.out.trans (hb2.mono HB2.out.size)
        have p3 := HC0.out _ hB3
        have p4 := HC1.out _ hB3
        have p5 := HC2.out _ hB3
        have HB4 := Lib.hid (hB3.alloc hB3.size (.cells #[.int .i64 r.id, .int .i64 r.key, .int .i64 r.seq] 28))
        have HO4 := Lib.hid (OwnR.alloc (OwnR.kept HO.out hb2) (.cells #[.int .i64 r.id, .int .i64 r.key, .int .i64 r.seq] 28))
        have HP4 := Lib.hid (oneT w2 r)
        clear hb2 hB3 p0 p1 p2 x0 x1 x2 M
        go_wp2_with (at_builtin; refine wpList_append_rows csT_len (by decide) csT_one rfl _ _ 26 rfl w1.heap.size 28 i0 (.agg #[.int .i64 0, .int .i64 0, .int .i64 0]) 24 Try.underlying26 hi hz0 hz1 hz2 rfl _ _ rfl HO4.out _ [r] rfl HP4.out (by unfold maxLen; simp; omega) (by simp; omega) HB4.out.size ?_; intro v2 w5 o2 g2; have HO5 := Lib.hid o2; have HB5 := Lib.hid (OwnR.below HO4.out HB4.out HB4.out.size g2); clear o2 g2)
        go_roundw
        case rel => exact ⟨k + 1, out ++ [r], true, by omega, by go_num, rfl, HO5.out, by simp at hol ⊢; omega, by rw [HPE.out]; simp, HB5.out⟩
        case measure => simp [intOf] <;> omega
      | false =>
        cases t with
        | false =>
          go_wp2
          refine wp_region_calm0 (by kernel_rfl) (by kernel_rfl) fun M => ?_
          have m0 := fun n : In M.w => n.cell (M.cell p0)
          have m1 := fun n : In M.w => n.cell (M.cell p1)
          have m2 := fun n : In M.w => n.cell (M.cell p2)
          have m3 := fun n : In M.w => n.cell (M.cell x0)
          have m4 := fun n : In M.w => n.cell (M.cell x1)
          have m5 := fun n : In M.w => n.cell (M.cell x2)
          repeat (go_big_quiet_step ((go_at_call 19; with_reducible exact In.call (HG.out _))))
          refine wpQuiet_nil ?_
          intro w2 hb2
          have hB3 := HB2.out.trans (hb2.mono HB2.out.size)
          have p3 := HC0.out _ hB3
          have p4 := HC1.out _ hB3
          have p5 := HC2.out _ hB3
          have HB4 := Lib.hid (hB3.alloc hB3.size (.cells #[.int .i64 r.id, .int .i64 r.key, .int .i64 r.seq] 28))
          have HO4 := Lib.hid (OwnR.alloc (OwnR.kept HO.out hb2) (.cells #[.int .i64 r.id, .int .i64 r.key, .int .i64 r.seq] 28))
          have HP4 := Lib.hid (oneT w2 r)
          clear hb2 hB3 p0 p1 p2 x0 x1 x2 m0 m1 m2 m3 m4 m5 M
          go_wp2_with (at_builtin; refine wpList_append_rows csT_len (by decide) csT_one rfl _ _ 26 rfl w1.heap.size 28 i0 (.agg #[.int .i64 0, .int .i64 0, .int .i64 0]) 24 Try.underlying26 hi hz0 hz1 hz2 rfl _ _ rfl HO4.out _ [r] rfl HP4.out (by unfold maxLen; simp; omega) (by simp; omega) HB4.out.size ?_; intro v2 w5 o2 g2; have HO5 := Lib.hid o2; have HB5 := Lib.hid (OwnR.below HO4.out HB4.out HB4.out.size g2); clear o2 g2)
          go_roundw
          case rel => exact ⟨k + 1, out ++ [r], false, by omega, by go_num, rfl, HO5.out, by simp at hol ⊢; omega, by rw [HPE.out]; simp, HB5.out⟩
          case measure => simp [intOf] <;> omega
        | true =>
          go_wp2
          refine wp_region_calm0 (by kernel_rfl) (by kernel_rfl) fun M => ?_
          have m0 := fun n : In M.w => n.cell (M.cell p0)
          have m1 := fun n : In M.w => n.cell (M.cell p1)
          have m2 := fun n : In M.w => n.cell (M.cell p2)
          have m3 := fun n : In M.w => n.cell (M.cell x0)
          have m4 := fun n : In M.w => n.cell (M.cell x1)
          have m5 := fun n : In M.w => n.cell (M.cell x2)
          repeat (go_big_quiet_step ((go_at_call 19; with_reducible exact In.call (HG.out _))))
          refine wpQuiet_nil ?_
          intro w2 hb2
          have hB3 := HB2.out.trans (hb2.mono HB2.out.size)
          have x3 := HX0.out _ hB3
          have x4 := HXA.out _ hB3
          have x5 := HXB.out _ hB3
          have HB4 := Lib.hid (hB3.alloc hB3.size (.cells #[.int .i64 x.id, .int .i64 x.key, .int .i64 x.seq] 28))
          have HO4 := Lib.hid (OwnR.alloc (OwnR.kept HO.out hb2) (.cells #[.int .i64 x.id, .int .i64 x.key, .int .i64 x.seq] 28))
          have HP4 := Lib.hid (oneT w2 x)
          clear hb2 hB3 p0 p1 p2 x0 x1 x2 m0 m1 m2 m3 m4 m5 M
          go_upto_region 10 with (at_builtin; refine wpList_append_rows csT_len (by decide) csT_one rfl _ _ 26 rfl w1.heap.size 28 i0 (.agg #[.int .i64 0, .int .i64 0, .int .i64 0]) 24 Try.underlying26 hi hz0 hz1 hz2 rfl _ _ rfl HO4.out _ [x] rfl HP4.out (by unfold maxLen; simp; omega) (by simp; omega) HB4.out.size ?_; intro v2 w5 o2 g2; have HO5 := Lib.hid o2; have HB5 := Lib.hid (OwnR.below HO4.out HB4.out HB4.out.size g2); clear o2 g2; clear x3 x4 x5)
          have p3 := HC0.out _ HB5.out
          have p4 := HC1.out _ HB5.out
          have p5 := HC2.out _ HB5.out
          have HB6 := Lib.hid (HB5.out.alloc HB5.out.size (.cells #[.int .i64 r.id, .int .i64 r.key, .int .i64 r.seq] 28))
          have HO6 := Lib.hid (OwnR.alloc HO5.out (.cells #[.int .i64 r.id, .int .i64 r.key, .int .i64 r.seq] 28))
          have HP6 := Lib.hid (oneT w5 r)
          go_wp2_with (at_builtin; refine wpList_append_rows csT_len (by decide) csT_one rfl _ _ 26 rfl w1.heap.size 28 i0 (.agg #[.int .i64 0, .int .i64 0, .int .i64 0]) 24 Try.underlying26 hi hz0 hz1 hz2 rfl _ _ rfl HO6.out _ [r] rfl HP6.out (by unfold maxLen; simp; omega) (by simp; omega) HB6.out.size ?_; intro v2 w7 o2 g2; have HO7 := Lib.hid o2; have HB7 := Lib.hid (OwnR.below HO6.out HB6.out HB6.out.size g2); clear o2 g2)
          go_roundw
          case rel => exact ⟨k + 1, out ++ [x] ++ [r], true, by omega, by go_num, rfl, HO7.out, by simp at hol ⊢; omega, by rw [HPE.out]; simp, HB7.out⟩
          case measure => simp [intOf] <;> omega
    · have hke : k = R.length := by omega
      subst hke
      rw [List.drop_length] at hPe
      cases d with
      | true =>
        have hPo : P = out := by rw [hPe]; simp [restT]
        subst hPo
        obtain ⟨a', c', rfl⟩ := RowsAt.form (OwnR.rows csT_len ho)
        have HO := Lib.hid (OwnR.base13 ho HB1.out.size)
        generalize P.length = n at *
        clear ho hPe x0 x1 x2
        go_wp2
        refine bodyPost_ret (v := .tuple #[.slice a' n c', .bool (!h)]) ?_ rfl ⟨_, rfl, HO.out, HB1.out.trans (hB1.mono HB1.out.size)⟩
        simp [results, Try.results8, go_sem]
      | false =>
        have HPo := Lib.hid (show P = out ++ [x] by rw [hPe]; simp [restT, insT])
        have HB4 := Lib.hid (hB1.alloc hB1.size (.cells #[.int .i64 x.id, .int .i64 x.key, .int .i64 x.seq] 28))
        have HO4 := Lib.hid (OwnR.alloc ho (.cells #[.int .i64 x.id, .int .i64 x.key, .int .i64 x.seq] 28))
        have HP4 := Lib.hid (oneT wr x)
        clear ho hPe hB1
        go_wp2_with (at_builtin; refine wpList_append_rows csT_len (by decide) csT_one rfl _ _ 26 rfl w1.heap.size 28 i0 (.agg #[.int .i64 0, .int .i64 0, .int .i64 0]) 24 Try.underlying26 hi hz0 hz1 hz2 rfl _ _ rfl HO4.out _ [x] rfl HP4.out (by unfold maxLen; simp; omega) (by simp; omega) HB4.out.size ?_; intro v2 w5 o2 g2; have HO5 := Lib.hid o2; have HB5 := Lib.hid (OwnR.below HO4.out HB4.out HB4.out.size g2); clear o2 g2; obtain ⟨a', c', e'⟩ := RowsAt.form (OwnR.rows csT_len HO5.out); rw [List.length_append] at e'; subst e')
        refine bodyPost_ret (v := .tuple #[.slice a' (out.length + [x].length) c', .bool (!h)]) ?_ rfl ⟨_, rfl, by rw [HPo.out]; exact OwnR.base13 HO5.out HB1.out.size, HB1.out.trans (HB5.out.mono HB1.out.size)⟩
        simp [results, Try.results8, go_sem]
end Go.Proofs.Ytiaiappoodjpdaa
