/- Stage 11: what the document answers of an act. -/
import Derived.Test.YtgfcgabaacdjlaaTapeC
import Derived.Test.YtgfcgabaacdjlaaChainO
import Derived.Test.YtgfcgabaacdjlaaSatMath
import Derived.Deep.DeepCutAuto
namespace Go.Proofs.Ytgfcgabaacdjlaa
open Go.RowKit

/-- a tape behind an act: what is held, what is loose, what Cut answers -/
def tH (H L : List UInt8) (k n : Int) : List UInt8 := if k = 2 then H ++ L else if k = 3 then H ++ L.take (min (max n 0) (L.length : Int)).toNat else if k = 4 then H.drop (cutN H.length n) else H
def tL (L : List UInt8) (k : Int) (b : List UInt8) : List UInt8 := if k = 1 then L ++ b else if k = 2 ∨ k = 3 then [] else L
def tE (H : List UInt8) (k n : Int) : Int := if k = 4 then cutE H.length n else 0
/-- the bytes that the document's answer holds: the old value, or new memory -/
def NewB (w0 w : World) (v0 v : Value) (l0 l : List UInt8) : Prop := BytesAt w v l ∧ ((v = v0 ∧ l = l0) ∨ ∀ g, v.ownBlock = some g → w0.heap.size ≤ g)

theorem refClip11_any (n a b : Int) (w : World) : Calls Try.prog 17 #[.int .i64 n, .int .i64 a, .int .i64 b] w fun e w' => e = .returned (.int .i64 (iclip n a b)) ∧ Below w.heap.size w w' := by
  by_cases h : n < a
  · go_enter Try.func17, Try.ntmps17
    go_wp2
    go_ret
    exact ⟨ret_i (by rw [iclip, if_pos h]), Below.refl _ _⟩
  · by_cases h1 : b < n
    all_goals
      go_enter Try.func17, Try.ntmps17
      go_wp2
      go_ret
      exact ⟨ret_i (by rw [iclip, if_neg (by omega)]; omega), Below.refl _ _⟩

set_option maxHeartbeats 4000000 in
set_option maxRecDepth 100000 in
theorem refDo_other (vB va : Value) (B b : List UInt8) (s k n : Int) (w : World) (hB : BytesAt w vB B) (hb : BytesAt w va b) (hk : k ≠ 1 ∧ k ≠ 2 ∧ k ≠ 3 ∧ k ≠ 4) :
    Calls Try.prog 9 #[.agg #[vB, .int .i64 s], .agg #[.int .i64 k, .int .i64 n, va]] w fun e w' => ∃ v, e = .returned (.tuple #[.agg #[v, .int .i64 s], .int .i64 0]) ∧ NewB w w' vB v B B ∧ Below w.heap.size w w' := by
  have HB := Lib.hid hB
  obtain ⟨a, c, rfl⟩ := RowsAt.form hB
  obtain ⟨a', c', rfl⟩ := RowsAt.form hb
  obtain ⟨k1, k2, k3, k4⟩ := hk
  clear hB hb
  go_enter Try.func9, Try.ntmps9
  go_wp2
  refine bodyPost_ret (v := .tuple #[.agg #[.slice a B.length c, .int .i64 s], .int .i64 0]) ?_ rfl ⟨_, rfl, ?_, ?_⟩
  · simp [results, Try.results9, go_sem]
  · exact ⟨HB.out.kept (by refine ((Below.refl _ _).alloc ?_ _).alloc ?_ _ |>.alloc ?_ _ <;> simp <;> omega), .inl ⟨rfl, rfl⟩⟩
  · refine ((Below.refl _ _).alloc ?_ _).alloc ?_ _ |>.alloc ?_ _ <;> simp <;> omega

set_option maxHeartbeats 4000000 in
set_option maxRecDepth 100000 in
theorem refDo_two (vB va : Value) (B b : List UInt8) (s n : Int) (w : World) (hB : BytesAt w vB B) (hb : BytesAt w va b) :
    Calls Try.prog 9 #[.agg #[vB, .int .i64 s], .agg #[.int .i64 2, .int .i64 n, va]] w fun e w' => ∃ v, e = .returned (.tuple #[.agg #[v, .int .i64 (B.length : Int)], .int .i64 0]) ∧ NewB w w' vB v B B ∧ Below w.heap.size w w' := by
  have HB := Lib.hid hB
  obtain ⟨a, c, rfl⟩ := RowsAt.form hB
  obtain ⟨a', c', rfl⟩ := RowsAt.form hb
  clear hB hb
  go_enter Try.func9, Try.ntmps9
  go_wp2
  refine bodyPost_ret (v := .tuple #[.agg #[.slice a B.length c, .int .i64 (B.length : Int)], .int .i64 0]) ?_ rfl ⟨_, rfl, ?_, ?_⟩
  · simp [results, Try.results9, go_sem]
  · exact ⟨HB.out.kept (by refine ((Below.refl _ _).alloc ?_ _).alloc ?_ _ |>.alloc ?_ _ <;> simp <;> omega), .inl ⟨rfl, rfl⟩⟩
  · refine ((Below.refl _ _).alloc ?_ _).alloc ?_ _ |>.alloc ?_ _ <;> simp <;> omega

/-- three blocks that a call lays -/
theorem three_new (w : World) (x1 x2 x3 : Value) (r1 r2 r3 : List Value) (T1 T2 T3 : TypeId) :
    let ww := ((w.alloc (.cells (x1 :: r1).toArray T1)).alloc (.cells (x2 :: r2).toArray T2)).alloc (.cells (x3 :: r3).toArray T3)
    Blk ww w.heap.size (x1 :: r1) ∧ Blk ww (w.heap.size + 1) (x2 :: r2) ∧ Blk ww (w.heap.size + 2) (x3 :: r3) ∧ Below w.heap.size w ww ∧ ww.heap.size = w.heap.size + 3 := by
  intro ww
  have e1 : (w.alloc (.cells (x1 :: r1).toArray T1)).heap.size = w.heap.size + 1 := by simp
  have e2 : ((w.alloc (.cells (x1 :: r1).toArray T1)).alloc (.cells (x2 :: r2).toArray T2)).heap.size = w.heap.size + 2 := by simp
  have b2 := Blk.new (w.alloc (.cells (x1 :: r1).toArray T1)) (x2 :: r2) T2
  have b3 := Blk.new ((w.alloc (.cells (x1 :: r1).toArray T1)).alloc (.cells (x2 :: r2).toArray T2)) (x3 :: r3) T3
  rw [e1] at b2
  rw [e2] at b3
  exact ⟨((Blk.new w (x1 :: r1) T1).kept ((Below.refl _ _).alloc (Nat.le_refl _) _)).kept ((Below.refl _ _).alloc (Nat.le_refl _) _), b2.kept ((Below.refl _ _).alloc (Nat.le_refl _) _), b3,
    (((Below.refl _ _).alloc (Nat.le_refl _) _).alloc (by simp) _).alloc (by simp; omega) _, by simp [ww]⟩

set_option maxHeartbeats 4000000 in
set_option maxRecDepth 100000 in
theorem refDo_one (vB va : Value) (B b : List UInt8) (s n : Int) (w : World) (hB : BytesAt w vB B) (hb : BytesAt w va b) (hl : B.length + b.length ≤ 1000000000) :
    Calls Try.prog 9 #[.agg #[vB, .int .i64 s], .agg #[.int .i64 1, .int .i64 n, va]] w fun e w' => ∃ v, e = .returned (.tuple #[.agg #[v, .int .i64 s], .int .i64 0]) ∧ NewB w w' vB v B (B ++ b) ∧ Below w.heap.size w w' := by
  obtain ⟨i0, hi, hz0, hz1, hz2⟩ := info_parts info8
  have HB := Lib.hid hB
  have HA := Lib.hid hb
  obtain ⟨a, c, rfl⟩ := RowsAt.form hB
  obtain ⟨a', c', rfl⟩ := RowsAt.form hb
  clear hB hb
  go_enter Try.func9, Try.ntmps9
  go_wp2
  obtain ⟨b2, b3, b4, hB0, hsz⟩ := three_new w (.slice a B.length c) (.int .i64 1) (.slice none 0 0) [.int .i64 s] [.int .i64 n, .slice a' b.length c'] [.int .i64 0] 29 31 29
  generalize ((w.alloc (.cells #[.slice a B.length c, .int .i64 s] 29)).alloc (.cells #[.int .i64 1, .int .i64 n, .slice a' b.length c'] 31)).alloc (.cells #[.slice none 0 0, .int .i64 0] 29) = ww at *
  have c0 := b2.cell 0 rfl
  have c2 := b3.cell 2 rfl
  refine wp_region_chain 7 [.own (Lk.list (w.heap.size + 3) 1 csB 0 []), .calm 2, .own (Lk.list (w.heap.size + 3) 1 csB B.length ([] ++ B)), .calm 2, .own (Lk.list (w.heap.size + 3) 1 csB (B.length + b.length) (([] ++ B) ++ b))] [0, 3, 6] rfl (by kernel_rfl) (by simp) (by kernel_rfl) (by kernel_rfl) ?_
  simp only [List.take_succ_cons, List.take_zero, List.drop_succ_cons, List.drop_zero]
  refine ⟨rfl, Lk.at_empty hsz (e := 5) (fun k => by simp [go_sem]), fun x1 A hA => ?_⟩
  simp [Act.put, Lk.list] at hA
  subst hA
  refine ⟨by simp, fun M => ?_⟩
  simp only [List.take_succ_cons, List.take_zero, List.drop_succ_cons, List.drop_zero]
  have m0 := fun n : In M.w => n.cell (M.cell c0)
  repeat (go_big_quiet_step (fail))
  refine wpQuiet_nil ?_
  clear m0 M
  refine ⟨rfl, Lk.at_append hsz (.tmp 10) (.tmp 12) 27 27 rfl csB_len (by decide) csB_one 5 5 i0 (.int .u8 0) Try.underlying27 Try.underlying27 hi hz0 hz1 rfl (.slice x1.1 0 x1.2) [] rfl (.slice a B.length c) B rfl _ (by simp) (by unfold maxLen; simp; omega) (by rw [hz2]; simp; omega) (fun n hn => ⟨hn, HB.out.kept (hB0.trans (n.h.mono (by omega)))⟩), fun x2 A hA => ?_⟩
  simp [Act.put, Lk.list] at hA
  subst hA
  refine ⟨by simp, fun M => ?_⟩
  simp only [List.take_succ_cons, List.take_zero, List.drop_succ_cons, List.drop_zero]
  have m0 := fun n : In M.w => n.cell (M.cell c2)
  repeat (go_big_quiet_step (fail))
  refine wpQuiet_nil ?_
  clear m0 M
  refine ⟨rfl, Lk.at_append hsz (.tmp 13) (.tmp 15) 27 27 rfl csB_len (by decide) csB_one 5 5 i0 (.int .u8 0) Try.underlying27 Try.underlying27 hi hz0 hz1 rfl (.slice x2.1 B.length x2.2) ([] ++ B) rfl (.slice a' b.length c') b rfl _ (by simp) (by unfold maxLen; simp; omega) (by rw [hz2]; simp; omega) (fun n hn => ⟨hn, HA.out.kept (hB0.trans (n.h.mono (by omega)))⟩), fun x3 A hA => ⟨rfl, fun w1 hb1 hr => ?_⟩⟩
  simp [Act.put, Lk.list] at hA
  subst hA
  obtain ⟨a3, c3⟩ := x3
  obtain ⟨ho, hg⟩ := hr
  simp only [List.nil_append] at ho
  have b2' := (b2.kept hb1).set 0 (.slice a3 (B.length + b.length) c3)
  have b4' := (b4.kept hb1).away ⟨w.heap.size, 0, none⟩ (.slice a3 (B.length + b.length) c3) (by simp)
  have b4'' := (b4'.set 0 (.slice a3 (B.length + b.length) c3)).set 1 (.int .i64 s)
  have z2 := (b2.kept hb1).free 0 rfl
  have k2 := (b2.kept hb1).cell 0 rfl
  have f0 := b2'.cell 0 rfl
  have f1 := b2'.cell 1 rfl
  have g0 := b4'.cell 0 rfl
  have g1 := b4'.cell 1 rfl
  have y0 := b4'.free 0 rfl
  have y1 := b4'.free 1 rfl
  have r0 := b4''.cell 0 rfl
  have r1 := b4''.cell 1 rfl
  have hB1 := ((((hB0.trans (hb1.mono (by omega))).setCell (p := ⟨w.heap.size, 0, none⟩) (Nat.le_refl _) (.slice a3 (B.length + b.length) c3)).setCell (p := ⟨w.heap.size + 2, 0, none⟩) (by simp) (.slice a3 (B.length + b.length) c3)).setCell (p := ⟨w.heap.size + 2, 1, none⟩) (by simp) (.int .i64 s))
  have hg' : ∀ k, (Value.slice a3 (B.length + b.length) c3).ownBlock = some k → k ≠ w.heap.size ∧ k ≠ w.heap.size + 2 := fun k hk => by
    have := hg k hk
    omega
  have HO := Lib.hid (((ho.away ⟨w.heap.size, 0, none⟩ (.slice a3 (B.length + b.length) c3) fun k hk => (hg' k hk).1).away ⟨w.heap.size + 2, 0, none⟩ (.slice a3 (B.length + b.length) c3) fun k hk => (hg' k hk).2).away ⟨w.heap.size + 2, 1, none⟩ (.int .i64 s) fun k hk => (hg' k hk).2)
  have HB1 := Lib.hid hB1
  have HG := Lib.hid hg
  clear b2' b4' b4'' hB1 hg hg' ho b2 b3 b4 c0 c2
  go_wp2
  refine bodyPost_ret (v := .tuple #[.agg #[.slice a3 (B.length + b.length) c3, .int .i64 s], .int .i64 0]) ?_ rfl ⟨_, rfl, ⟨HO.out.rows csB_len, .inr fun g hk => by have := HG.out g hk; omega⟩, HB1.out⟩
  simp [results, Try.results9, go_sem, r0, r1]

theorem own_empty (w : World) (B : Nat) (hB : w.heap.size = B) : OwnO (w.alloc (.cells #[] 5)) 1 csB (.slice (some ⟨B, 0, none⟩) 0 0) [] := by
  subst hB
  exact .inr ⟨w.heap.size, 0, 0, rfl, by simp, Nat.le_refl _, by simp [maxLen], fun j hj => by simp at hj, fun j hj => by simp at hj⟩

set_option maxHeartbeats 4000000 in
set_option maxRecDepth 100000 in
theorem refDo_three (vB va : Value) (B b : List UInt8) (s d : Nat) (n : Int) (w : World) (hB : BytesAt w vB B) (hb : BytesAt w va b) (hl : B.length ≤ 1000000000) (hs : s + d ≤ B.length) (hd : iclip n 0 ((B.length : Int) - (s : Int)) = (d : Int)) :
    Calls Try.prog 9 #[.agg #[vB, .int .i64 (s : Int)], .agg #[.int .i64 3, .int .i64 n, va]] w fun e w' => ∃ v, e = .returned (.tuple #[.agg #[v, .int .i64 ((s + d : Nat) : Int)], .int .i64 0]) ∧ NewB w w' vB v B (B.take (s + d)) ∧ Below w.heap.size w w' := by
  obtain ⟨i0, hi, hz0, hz1, hz2⟩ := info_parts info8
  have HB := Lib.hid hB
  obtain ⟨a, c, rfl⟩ := RowsAt.form hB
  obtain ⟨a', c', rfl⟩ := RowsAt.form hb
  have hlc : B.length ≤ c := by
    obtain ⟨_, _, e, h, _⟩ := hB
    cases e
    exact h
  have hcl := fun w => refClip11_any n 0 ((B.length : Int) - (s : Int)) w
  rw [hd] at hcl
  have HCL := Lib.hid hcl
  have q1 : IntKind.i64.wrap ((B.length : Int) - (s : Int)) = (B.length : Int) - (s : Int) := IntWalk.i64_in _ ⟨by omega, by omega⟩
  obtain ⟨sd, hsd⟩ : ∃ sd, s + d = sd := ⟨_, rfl⟩
  rw [hsd] at hs ⊢
  have q2 : (s : Int) + (d : Int) = (sd : Int) := by omega
  clear hB hb hcl hd hsd
  go_enter Try.func9, Try.ntmps9
  go_wp2
  obtain ⟨b2, b3, b4, hB0, hsz⟩ := three_new w (.slice a B.length c) (.int .i64 3) (.slice none 0 0) [.int .i64 (s : Int)] [.int .i64 n, .slice a' b.length c'] [.int .i64 0] 29 31 29
  generalize ((w.alloc (.cells #[.slice a B.length c, .int .i64 (s : Int)] 29)).alloc (.cells #[.int .i64 3, .int .i64 n, .slice a' b.length c'] 31)).alloc (.cells #[.slice none 0 0, .int .i64 0] 29) = ww at *
  have c0 := b2.cell 0 rfl
  have c1 := b2.cell 1 rfl
  have c2 := b3.cell 1 rfl
  refine wp_region_calmT 12 (by kernel_rfl) (by simp) (by kernel_rfl) fun M => ?_
  simp only [List.take_succ_cons, List.take_zero, List.drop_succ_cons, List.drop_zero]
  have m0 := fun n : In M.w => n.cell (M.cell c0)
  have m1 := fun n : In M.w => n.cell (M.cell c1)
  have m2 := fun n : In M.w => n.cell (M.cell c2)
  repeat (go_big_quiet_step ((go_at_call 17; exact In.call (HCL.out _))))
  refine wpQuiet_nil ?_
  clear m0 m1 m2 M
  intro w1 hb1
  have k1 := (b2.kept hb1).cell 1 rfl
  have z1 := (b2.kept hb1).free 1 rfl
  have p2 := (b2.kept hb1).set 1 (.int .i64 (sd : Int))
  have p4 := (b4.kept hb1).away ⟨w.heap.size, 1, none⟩ (.int .i64 (sd : Int)) (by simp)
  have hB2 := (hB0.trans (hb1.mono (by omega))).setCell (p := ⟨w.heap.size, 1, none⟩) (Nat.le_refl _) (.int .i64 (sd : Int))
  have hsz1 : w.heap.size + 3 ≤ (w1.setCell ⟨w.heap.size, 1, none⟩ (.int .i64 (sd : Int))).heap.size := by
    have := hb1.size
    simp [World.setCell]
    omega
  have HP2 := Lib.hid p2
  have HP4 := Lib.hid p4
  have HB2 := Lib.hid hB2
  have HSZ := Lib.hid hsz1
  clear b2 b3 b4 c0 c1 c2 hB0 hsz hb1 p2 p4 hB2 hsz1
  go_upto_region 8 with fail
  clear k1 z1
  generalize w1.setCell ⟨w.heap.size, 1, none⟩ (.int .i64 (sd : Int)) = w2 at *
  have he := own_empty w2 _ rfl
  have hal := (Below.refl w2.heap.size w2).alloc (Nat.le_refl _) (.cells #[] 5)
  have hP2 : Blk w2 w.heap.size [.slice a B.length c, .int .i64 (sd : Int)] := HP2.out
  have hQ2 := hP2.kept hal
  have d0 := hQ2.cell 0 rfl
  have d1 := hQ2.cell 1 rfl
  have HQ2 := Lib.hid hQ2
  have HQ4 := Lib.hid (HP4.out.kept hal)
  have HB3 := Lib.hid (HB2.out.trans (hal.mono (by have := HSZ.out; omega)))
  have HBt := Lib.hid (((HB.out.kept HB2.out).kept hal).front sd hs)
  have hlt : (B.take sd).length = sd := by rw [List.length_take, Nat.min_eq_left hs]
  have e1 : (sd : Int) ≤ (c : Int) := by omega
  have HE := Lib.hid he
  clear he hP2 hQ2 hal
  go_wp2_with (at_builtin; refine wpList_append_o rfl _ _ _ _ rfl csB_len (by decide) csB_one 5 5 i0 (.int .u8 0) Try.underlying27 Try.underlying27 hi hz0 hz1 rfl rfl HE.out _ (B.take sd) rfl HBt.out (by unfold maxLen; simp; omega) (by rw [hz2]; simp; omega) ?_)
  intro v' w3 ho hg hat
  have hfr : ∀ k, v'.ownBlock = some k → w.heap.size + 3 ≤ k := fun k hk => by
    have := HSZ.out
    rcases hat with h | h
    · rw [h] at hk
      cases hk
      exact this
    · rw [h] at hk
      simp at hk
      omega
  obtain ⟨a3, c3, e3⟩ := ho.form
  rw [hlt] at e3
  subst e3
  have hne : ∀ k : Nat, k < w.heap.size + 3 → some k ≠ (Value.slice (some ⟨w2.heap.size, 0, none⟩) 0 0).ownBlock := fun k hk e => by
    have := HSZ.out
    simp [Value.ownBlock] at e
    omega
  have s2 := HQ2.out.grown hg (hne _ (by omega))
  have s4 := HQ4.out.grown hg (hne _ (by omega))
  have u2 := s2.set 0 (.slice a3 sd c3)
  have u4 := s4.away ⟨w.heap.size, 0, none⟩ (.slice a3 sd c3) (by simp)
  have v4 := (u4.set 0 (.slice a3 sd c3)).set 1 (.int .i64 (sd : Int))
  have k2 := s2.cell 0 rfl
  have z2 := s2.free 0 rfl
  have f0 := u2.cell 0 rfl
  have f1 := u2.cell 1 rfl
  have g0 := u4.cell 0 rfl
  have g1 := u4.cell 1 rfl
  have y0 := u4.free 0 rfl
  have y1 := u4.free 1 rfl
  have r0 := v4.cell 0 rfl
  have r1 := v4.cell 1 rfl
  have hB4 := HB3.out.grown hg HB3.out.size fun k hk => by
    simp [Value.ownBlock] at hk
    have := HSZ.out
    omega
  have hB5 := (((hB4.setCell (p := ⟨w.heap.size, 0, none⟩) (Nat.le_refl _) (.slice a3 sd c3)).setCell (p := ⟨w.heap.size + 2, 0, none⟩) (by simp) (.slice a3 sd c3)).setCell (p := ⟨w.heap.size + 2, 1, none⟩) (by simp) (.int .i64 (sd : Int)))
  have hg' : ∀ k, (Value.slice a3 sd c3).ownBlock = some k → k ≠ w.heap.size ∧ k ≠ w.heap.size + 2 := fun k hk => by
    have := hfr k hk
    omega
  have HO := Lib.hid (((ho.away ⟨w.heap.size, 0, none⟩ (.slice a3 sd c3) fun k hk => (hg' k hk).1).away ⟨w.heap.size + 2, 0, none⟩ (.slice a3 sd c3) fun k hk => (hg' k hk).2).away ⟨w.heap.size + 2, 1, none⟩ (.int .i64 (sd : Int)) fun k hk => (hg' k hk).2)
  have HB5 := Lib.hid hB5
  have HFR := Lib.hid hfr
  clear d0 d1 hlt hfr ho hg hat hne s2 s4 u2 u4 v4 hB4 hB5 hg'
  go_wp2
  refine bodyPost_ret (v := .tuple #[.agg #[.slice a3 sd c3, .int .i64 (sd : Int)], .int .i64 0]) ?_ rfl ⟨_, rfl, ⟨HO.out.rows csB_len, .inr fun g hk => by have := HFR.out g hk; omega⟩, HB5.out⟩
  simp [results, Try.results9, go_sem, r0, r1]

set_option maxHeartbeats 4000000 in
set_option maxRecDepth 100000 in
theorem refDo_err (vB va : Value) (B b : List UInt8) (s n r : Int) (w : World) (hB : BytesAt w vB B) (hb : BytesAt w va b) (hn : (n < 0 ∧ r = 1) ∨ (¬ n < 0 ∧ s < n ∧ r = 12)) :
    Calls Try.prog 9 #[.agg #[vB, .int .i64 s], .agg #[.int .i64 4, .int .i64 n, va]] w fun e w' => ∃ v, e = .returned (.tuple #[.agg #[v, .int .i64 s], .int .i64 r]) ∧ NewB w w' vB v B B ∧ Below w.heap.size w w' := by
  have HB := Lib.hid hB
  obtain ⟨a, c, rfl⟩ := RowsAt.form hB
  obtain ⟨a', c', rfl⟩ := RowsAt.form hb
  clear hB hb
  rcases hn with ⟨h1, rfl⟩ | ⟨h1, h2, rfl⟩
  · go_enter Try.func9, Try.ntmps9
    go_wp2
    refine bodyPost_ret (v := .tuple #[.agg #[.slice a B.length c, .int .i64 s], .int .i64 1]) ?_ rfl ⟨_, rfl, ?_, ?_⟩
    · simp [results, Try.results9, go_sem]
    · exact ⟨HB.out.kept (by refine ((Below.refl _ _).alloc ?_ _).alloc ?_ _ |>.alloc ?_ _ <;> simp <;> omega), .inl ⟨rfl, rfl⟩⟩
    · refine ((Below.refl _ _).alloc ?_ _).alloc ?_ _ |>.alloc ?_ _ <;> simp <;> omega
  · go_enter Try.func9, Try.ntmps9
    go_wp2
    refine bodyPost_ret (v := .tuple #[.agg #[.slice a B.length c, .int .i64 s], .int .i64 12]) ?_ rfl ⟨_, rfl, ?_, ?_⟩
    · simp [results, Try.results9, go_sem]
    · exact ⟨HB.out.kept (by refine ((Below.refl _ _).alloc ?_ _).alloc ?_ _ |>.alloc ?_ _ <;> simp <;> omega), .inl ⟨rfl, rfl⟩⟩
    · refine ((Below.refl _ _).alloc ?_ _).alloc ?_ _ |>.alloc ?_ _ <;> simp <;> omega

/-- the rest of a list, as the model cuts it -/
theorem rest_at {α : Type} {w : World} {K : Nat} {cs : α → List Value} {a : Option Addr} {n c : Nat} {l : List α} (h : RowsAt w K cs (.slice a n c) l) (k : Nat) (hk : k ≤ l.length) (a' : Option Addr) (ha : k < c → ∀ g o, a = some ⟨g, o, none⟩ → a' = some ⟨g, o + k * K, none⟩) : RowsAt w K cs (.slice a' (n - k) (c - k)) (l.drop k) := by
  obtain ⟨a0, c0, e, hc, hx⟩ := h
  cases e
  refine ⟨a', c - k, by rw [List.length_drop], by rw [List.length_drop]; omega, fun h0 => ?_⟩
  rw [List.length_drop] at h0
  obtain ⟨g, o, rfl, hg, hcell⟩ := hx (by omega)
  refine ⟨g, o + k * K, ha (by omega) g o rfl, hg, fun j x hj i u hu => ?_⟩
  rw [List.getElem?_drop] at hj
  have := hcell (k + j) x hj i u hu
  rw [Nat.add_mul] at this
  rw [← this]
  congr 2
  omega

set_option maxHeartbeats 4000000 in
set_option maxRecDepth 100000 in
theorem refDo_four (vB va : Value) (B b : List UInt8) (s n : Nat) (w : World) (hB : BytesAt w vB B) (hb : BytesAt w va b) (hl : B.length ≤ 1000000000) (hs : s ≤ B.length) (hn : n ≤ s) :
    Calls Try.prog 9 #[.agg #[vB, .int .i64 (s : Int)], .agg #[.int .i64 4, .int .i64 (n : Int), va]] w fun e w' => ∃ v, e = .returned (.tuple #[.agg #[v, .int .i64 ((s - n : Nat) : Int)], .int .i64 0]) ∧ NewB w w' vB v B (B.drop n) ∧ Below w.heap.size w w' := by
  obtain ⟨i0, hi, hz0, hz1, hz2⟩ := info_parts info8
  have HB := Lib.hid hB
  obtain ⟨a, c, rfl⟩ := RowsAt.form hB
  obtain ⟨a', c', rfl⟩ := RowsAt.form hb
  have hlc : B.length ≤ c := by
    obtain ⟨_, _, e, h, _⟩ := hB
    cases e
    exact h
  obtain ⟨q, hq⟩ : ∃ q, s - n = q := ⟨_, rfl⟩
  rw [hq]
  have q1 : (s : Int) - (n : Int) = (q : Int) := by omega
  have q2 : (n : Int) ≤ (s : Int) := by omega
  have q3 : (n : Int) ≤ (B.length : Int) := by omega
  have hdl : (B.drop n).length = B.length - n := List.length_drop ..
  have hres : ∃ a1 c1, (∀ w', (Instr.sliceAt 27 (.slice a B.length c) (some (.int .i64 (n : Int))) none none).run Try.prog w' = .ok (.slice a1 (B.length - n) c1) w') ∧ ∀ w', BytesAt w' (.slice a B.length c) B → BytesAt w' (.slice a1 (B.length - n) c1) (B.drop n) := by
    by_cases hcn : c = n
    · have hc0 : B.length = n := by omega
      refine ⟨a, 0, fun w' => ?_, fun w' h => ?_⟩
      · simp [go_sem, hcn, hc0, sliced]
      · have := rest_at h n (by omega) a (fun h => by omega)
        rwa [hcn, Nat.sub_self] at this
    · refine ⟨a.map (fun x => x.add n), c - n, fun w' => ?_, fun w' h => ?_⟩
      · have : (n : Int) ≤ (B.length : Int) := by omega
        simp [go_sem, sliced, this]
        exact fun h => absurd h hcn
      · exact rest_at h n (by omega) _ (fun _ g o e => by subst e; simp [Addr.add])
  obtain ⟨a1, c1, hsl, hrest⟩ := hres
  have HSL := Lib.hid hrest
  obtain ⟨m, hm⟩ : ∃ m, B.length - n = m := ⟨_, rfl⟩
  rw [hm] at hsl HSL hdl
  clear hB hb hrest hq hlc
  go_enter Try.func9, Try.ntmps9
  go_upto_region 14 with fail
  obtain ⟨b2, b3, b4, hB0, hsz⟩ := three_new w (.slice a B.length c) (.int .i64 4) (.slice none 0 0) [.int .i64 (s : Int)] [.int .i64 (n : Int), .slice a' b.length c'] [.int .i64 0] 29 31 29
  generalize ((w.alloc (.cells #[.slice a B.length c, .int .i64 (s : Int)] 29)).alloc (.cells #[.int .i64 4, .int .i64 (n : Int), .slice a' b.length c'] 31)).alloc (.cells #[.slice none 0 0, .int .i64 0] 29) = w2 at *
  have he := own_empty w2 _ hsz
  have hal := (Below.refl w2.heap.size w2).alloc (Nat.le_refl _) (.cells #[] 5)
  have hQ2 := b2.kept hal
  have hQ3 := b3.kept hal
  have d0 := hQ2.cell 0 rfl
  have d3 := hQ3.cell 1 rfl
  have HQ2 := Lib.hid hQ2
  have HQ3 := Lib.hid hQ3
  have HQ4 := Lib.hid (b4.kept hal)
  have HB3 := Lib.hid (hB0.trans (hal.mono (by omega)))
  have HBt := Lib.hid (HSL.out _ ((HB.out.kept hB0).kept hal))
  have HE := Lib.hid he
  have HSZ := Lib.hid hsz
  have hdm := hdl
  have HDM := Lib.hid hdm
  clear he hQ2 hQ3 hal b2 b3 b4 hB0 hdl hdm
  go_wp2_with (at_builtin; refine wpList_append_o rfl _ _ _ _ rfl csB_len (by decide) csB_one 5 5 i0 (.int .u8 0) Try.underlying27 Try.underlying27 hi hz0 hz1 rfl rfl HE.out _ (B.drop n) rfl HBt.out (by unfold maxLen; simp; omega) (by rw [hz2]; simp; omega) ?_)
  intro v' w3 ho hg hat
  have hfr : ∀ k, v'.ownBlock = some k → w.heap.size + 3 ≤ k := fun k hk => by
    have := HSZ.out
    rcases hat with h | h
    · rw [h] at hk
      simp [Value.ownBlock] at hk
      omega
    · rw [h] at hk
      simp at hk
      omega
  obtain ⟨a3, c3, e3⟩ := ho.form
  rw [HDM.out] at e3
  subst e3
  have hne : ∀ k : Nat, k < w.heap.size + 3 → some k ≠ (Value.slice (some ⟨w.heap.size + 3, 0, none⟩) 0 0).ownBlock := fun k hk e => by
    simp [Value.ownBlock] at e
    omega
  have s2 := HQ2.out.grown hg (hne _ (by omega))
  have s3 := HQ3.out.grown hg (hne _ (by omega))
  have s4 := HQ4.out.grown hg (hne _ (by omega))
  have u2 := s2.set 0 (.slice a3 m c3)
  have u3 := s3.away ⟨w.heap.size, 0, none⟩ (.slice a3 m c3) (by simp)
  have t2 := u2.set 1 (.int .i64 (q : Int))
  have u4 := (s4.away ⟨w.heap.size, 0, none⟩ (.slice a3 m c3) (by simp)).away ⟨w.heap.size, 1, none⟩ (.int .i64 (q : Int)) (by simp)
  have v4 := (u4.set 0 (.slice a3 m c3)).set 1 (.int .i64 (q : Int))
  have k2 := s2.cell 0 rfl
  have z2 := s2.free 0 rfl
  have f1 := u2.cell 1 rfl
  have z3 := u2.free 1 rfl
  have f3 := u3.cell 1 rfl
  have h0 := t2.cell 0 rfl
  have h1 := t2.cell 1 rfl
  have g0 := u4.cell 0 rfl
  have g1 := u4.cell 1 rfl
  have y0 := u4.free 0 rfl
  have y1 := u4.free 1 rfl
  have r0 := v4.cell 0 rfl
  have r1 := v4.cell 1 rfl
  have hB4 := HB3.out.grown hg HB3.out.size fun k hk => by
    simp [Value.ownBlock] at hk
    omega
  have hB5 := ((((hB4.setCell (p := ⟨w.heap.size, 0, none⟩) (Nat.le_refl _) (.slice a3 m c3)).setCell (p := ⟨w.heap.size, 1, none⟩) (Nat.le_refl _) (.int .i64 (q : Int))).setCell (p := ⟨w.heap.size + 2, 0, none⟩) (by simp) (.slice a3 m c3)).setCell (p := ⟨w.heap.size + 2, 1, none⟩) (by simp) (.int .i64 (q : Int)))
  have hg' : ∀ k, (Value.slice a3 m c3).ownBlock = some k → k ≠ w.heap.size ∧ k ≠ w.heap.size + 2 := fun k hk => by
    have := hfr k hk
    omega
  have HO := Lib.hid ((((ho.away ⟨w.heap.size, 0, none⟩ (.slice a3 m c3) fun k hk => (hg' k hk).1).away ⟨w.heap.size, 1, none⟩ (.int .i64 (q : Int)) fun k hk => (hg' k hk).1).away ⟨w.heap.size + 2, 0, none⟩ (.slice a3 m c3) fun k hk => (hg' k hk).2).away ⟨w.heap.size + 2, 1, none⟩ (.int .i64 (q : Int)) fun k hk => (hg' k hk).2)
  have HB5 := Lib.hid hB5
  have HFR := Lib.hid hfr
  clear d0 d3 hfr ho hg hat hne s2 s3 s4 u2 u3 u4 v4 hB4 hB5 hg' hsz
  go_wp2
  refine bodyPost_ret (v := .tuple #[.agg #[.slice a3 m c3, .int .i64 (q : Int)], .int .i64 0]) ?_ rfl ⟨_, rfl, ⟨HO.out.rows csB_len, .inr fun g hk => by have := HFR.out g hk; omega⟩, HB5.out⟩
  simp [results, Try.results9, go_sem, r0, r1]

/-- what the document answers of an act, as of a tape -/
theorem refDo_any (vB va : Value) (H L b : List UInt8) (k n : Int) (w : World) (hB : BytesAt w vB (H ++ L)) (hb : BytesAt w va b) (hl : H.length + L.length + b.length ≤ 1000000000) :
    Calls Try.prog 9 #[.agg #[vB, .int .i64 (H.length : Int)], .agg #[.int .i64 k, .int .i64 n, va]] w fun e w' => ∃ v, e = .returned (.tuple #[.agg #[v, .int .i64 ((tH H L k n).length : Int)], .int .i64 (tE H k n)]) ∧ NewB w w' vB v (H ++ L) (tH H L k n ++ tL L k b) ∧ Below w.heap.size w w' := by
  by_cases k1 : k = 1
  · subst k1
    have := refDo_one vB va (H ++ L) b (H.length : Int) n w hB hb (by rw [List.length_append]; exact hl)
    simpa [tH, tL, tE] using this
  by_cases k2 : k = 2
  · subst k2
    have := refDo_two vB va (H ++ L) b (H.length : Int) n w hB hb
    simpa [tH, tL, tE] using this
  by_cases k3 : k = 3
  · subst k3
    have hd : iclip n 0 (((H ++ L).length : Int) - (H.length : Int)) = (((min (max n 0) (L.length : Int)).toNat : Nat) : Int) := by
      unfold iclip
      rw [List.length_append]
      split <;> omega
    have := refDo_three vB va (H ++ L) b H.length (min (max n 0) (L.length : Int)).toNat n w hB hb (by rw [List.length_append]; omega) (by rw [List.length_append]; omega) hd
    have e1 : (H ++ L).take (H.length + (min (max n 0) (L.length : Int)).toNat) = H ++ L.take (min (max n 0) (L.length : Int)).toNat := by
      rw [List.take_append, List.take_of_length_le (by omega), Nat.add_sub_cancel_left]
    rw [e1] at this
    have e2 : (H ++ L.take (min (max n 0) (L.length : Int)).toNat).length = H.length + (min (max n 0) (L.length : Int)).toNat := by
      rw [List.length_append, List.length_take]
      omega
    have e3 : tH H L 3 n = H ++ L.take (min (max n 0) (L.length : Int)).toNat := rfl
    have e4 : tL L 3 b = [] := rfl
    have e5 : tE H 3 n = 0 := rfl
    rw [e3, e4, e5, e2, List.append_nil]
    exact this
  by_cases k4 : k = 4
  · subst k4
    have e3 : tH H L 4 n = H.drop (cutN H.length n) := rfl
    have e4 : tL L 4 b = L := rfl
    have e5 : tE H 4 n = cutE H.length n := rfl
    rw [e3, e4, e5]
    unfold cutN cutE
    by_cases h0 : n < 0
    · rw [if_pos (.inl h0), if_pos h0]
      exact refDo_err vB va (H ++ L) b (H.length : Int) n 1 w hB hb (.inl ⟨h0, rfl⟩)
    by_cases h1 : (H.length : Int) < n
    · rw [if_pos (.inr h1), if_neg h0, if_pos h1]
      exact refDo_err vB va (H ++ L) b (H.length : Int) n 12 w hB hb (.inr ⟨h0, h1, rfl⟩)
    rw [if_neg (by omega), if_neg h0, if_neg h1]
    obtain ⟨m, rfl⟩ : ∃ m : Nat, n = (m : Int) := ⟨n.toNat, by omega⟩
    rw [Int.toNat_natCast]
    have := refDo_four vB va (H ++ L) b H.length m w hB hb (by rw [List.length_append]; omega) (by rw [List.length_append]; omega) (by omega)
    rw [List.drop_append_of_le_length (by omega)] at this
    rw [List.length_drop]
    exact this
  · have := refDo_other vB va (H ++ L) b (H.length : Int) k n w hB hb ⟨k1, k2, k3, k4⟩
    simpa [tH, tL, tE, k1, k2, k3, k4] using this
end Go.Proofs.Ytgfcgabaacdjlaa
