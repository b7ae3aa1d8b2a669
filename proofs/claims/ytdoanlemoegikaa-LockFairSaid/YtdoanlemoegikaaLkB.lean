/- Stage 19's program: View; package lock as a whole. -/
import Derived.Test.YtdoanlemoegikaaLkA
import Derived.Test.YtdoanlemoegikaaChainO
namespace Go.Proofs.Ytdoanlemoegikaa
open Go.RowKit

set_option maxHeartbeats 4000000 in
set_option maxRecDepth 100000 in
theorem lkView_any {F : Nat → Prop} {w : World} {v : Value} {q : Lq} (h : LkAt F w v q) : Calls Try.prog 15 #[v] w fun e w' => ∃ v, e = .returned (lkv q.id q.holder v) ∧ IntsAt w' v q.wait ∧ Below w.heap.size w w' := by
  obtain ⟨b, m, G, rfl, h1, h2, h3, h4, h5, h6, h7⟩ := h
  obtain ⟨id, hd, L⟩ := q
  simp only at h1 h2 ⊢
  have b1 := (Below.refl w.heap.size w).alloc (Nat.le_refl _) (.cells #[.int .i64 0, .int .i64 0, .slice none 0 0] 28)
  have hY := Blk.new w [.int .i64 0, .int .i64 0, .slice none 0 0] 28
  have g1 := h1.kept b1
  have H := Lib.hid fun (w1 : World) (hb : Below (w.alloc (.cells #[.int .i64 0, .int .i64 0, .slice none 0 0] 28)).heap.size (w.alloc (.cells #[.int .i64 0, .int .i64 0, .slice none 0 0] 28)) w1) => lkInOrder_any ((h2.kept b1).kept hb)
  obtain ⟨n, hn⟩ : ∃ n, L.length = n := ⟨_, rfl⟩
  have HN := Lib.hid hn.symm
  have HB := Lib.hid b1
  have HY := Lib.hid hY
  have x0 := h1.cell 0 rfl
  have x1 := h1.cell 1 rfl
  have x2 := h1.cell 2 rfl
  have c0 := g1.cell 0 rfl
  have c1 := g1.cell 1 rfl
  have c2 := g1.cell 2 rfl
  clear h1 h2 h3 h4 h5 h6 h7 hn b1 hY g1
  go_enter Try.func15, Try.ntmps15
  go_upto_region 3 with fail
  have HZ := Lib.hid (show (w.alloc (.cells #[.int .i64 0, .int .i64 0, .slice none 0 0] 28)).heap.size = w.heap.size + 1 by simp)
  generalize w.alloc (.cells #[.int .i64 0, .int .i64 0, .slice none 0 0] 28) = w1 at *
  refine wp_region_chain 14 [.calm 12, .own (Lk.list (w.heap.size + 1) 1 csI n L), .calm 1] [12] rfl (by kernel_rfl) (by simp) (by kernel_rfl) (by kernel_rfl) ?_
  simp only [List.take_succ_cons, List.take_zero, List.drop_succ_cons, List.drop_zero]
  refine ⟨by simp, fun M => ?_⟩
  simp only [List.take_succ_cons, List.take_zero, List.drop_succ_cons, List.drop_zero]
  have k0 := fun n : In M.w => n.cell (M.cell c0)
  have k1 := fun n : In M.w => n.cell (M.cell c1)
  have k2 := fun n : In M.w => n.cell (M.cell c2)
  repeat (go_big_quiet_step (fail))
  refine wpQuiet_nil ?_
  clear k0 k1 k2 M
  refine ⟨rfl, Lk.at_call HZ.out (f := 24) (args := #[wtv m]) n L HN.out (fun k => by simp [go_sem]) (fun k => H.out k.w k.h), fun y A hA => ?_⟩
  simp [Act.put, Lk.list] at hA
  subst hA
  refine ⟨by simp, fun M => ?_⟩
  simp only [List.take_succ_cons, List.take_zero, List.drop_succ_cons, List.drop_zero]
  repeat (go_big_quiet_step (fail))
  refine wpQuiet_nil ?_
  clear M
  refine ⟨rfl, fun w5 hb5 h5 => ?_⟩
  obtain ⟨y1, y2⟩ := y
  have HI := Lib.hid (show OwnO w5 1 csI (.slice y1 n y2) L ∧ ∀ g, (Value.slice y1 n y2).ownBlock = some g → w.heap.size + 1 ≤ g from h5)
  have hy := HY.out.kept hb5
  have f0 := hy.free 0 rfl
  have f1 := hy.free 1 rfl
  have f2 := hy.free 2 rfl
  have d0 := hy.cell 0 rfl
  have d1 := hy.cell 1 rfl
  have d2 := hy.cell 2 rfl
  have ht := ((hy.set 0 (.int .i64 id)).set 1 (.int .i64 hd)).set 2 (.slice y1 n y2)
  have HT := Lib.hid ht
  have HB5 := Lib.hid hb5
  clear hb5 h5 hy ht c0 c1 c2 x0 x1 x2
  go_wp2
  have HBF := Lib.hid ((((HB.out.trans (HB5.out.mono HB.out.size)).setCell (p := ⟨w.heap.size, 0, none⟩) (by simp) (.int .i64 id)).setCell (p := ⟨w.heap.size, 1, none⟩) (by simp) (.int .i64 hd)).setCell (p := ⟨w.heap.size, 2, none⟩) (by simp) (.slice y1 n y2))
  have r0 := HT.out.cell 0 rfl
  have r1 := HT.out.cell 1 rfl
  have r2 := HT.out.cell 2 rfl
  refine bodyPost_ret (v := lkv id hd (.slice y1 n y2)) ?_ rfl ⟨_, rfl, ?_, HBF.out⟩
  · simp [results, Try.results15, go_sem, r0, r1, r2]
  · have hne : ∀ g, (Value.slice y1 n y2).ownBlock = some g → g ≠ w.heap.size := fun g hg => by
      have := HI.out.2 g hg
      omega
    exact RowsAt.ints (OwnO.rows csI_len (((HI.out.1.away ⟨w.heap.size, 0, none⟩ (.int .i64 id) hne).away ⟨w.heap.size, 1, none⟩ (.int .i64 hd) hne).away ⟨w.heap.size, 2, none⟩ (.slice y1 n y2) hne))
theorem lkView_nil (w : World) : Calls Try.prog 15 #[.pointer none] w fun e w' => ∃ v, e = .returned (lkv 0 0 v) ∧ Below w.heap.size w w' := by
  have b1 := (Below.refl w.heap.size w).alloc (Nat.le_refl _) (.cells #[.int .i64 0, .int .i64 0, .slice none 0 0] 28)
  go_enter Try.func15, Try.ntmps15
  go_wp2
  refine bodyPost_ret (v := lkv 0 0 (.slice none 0 0)) ?_ rfl ⟨_, rfl, b1⟩
  simp [results, Try.results15, go_sem]

/-- package lock -/
def lProg : LockProg where
  obj := ⟨LkAt, LkAt.same, LkAt.lt⟩
  new := fun id w _ => lkNew_any id w
  ask := fun t h ht => lkAsk_any t h ht
  grant := fun h => lkGrant_any h
  leave := fun t h ht => lkLeave_any t h ht
  head := fun h => lkHead_any h
  view := fun h => lkView_any h
  ask_nil := lkAsk_nil
  grant_nil := lkGrant_nil
  leave_nil := lkLeave_nil
  head_nil := lkHead_nil
  view_nil := lkView_nil
end Go.Proofs.Ytdoanlemoegikaa
