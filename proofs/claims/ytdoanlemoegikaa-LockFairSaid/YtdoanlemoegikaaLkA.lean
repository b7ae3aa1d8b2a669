/- Stage 19's program: a lock in memory: its queue, its ID, its holder; all its contracts. -/
import Derived.Test.YtdoanlemoegikaaLockLaw
import Derived.Test.YtdoanlemoegikaaFqD
import Derived.Test.YtdoanlemoegikaaLks
namespace Go.Proofs.Ytdoanlemoegikaa
open Go.RowKit

/-- a lock's block b, its queue at m in blocks of G -/
def LkAt (F : Nat → Prop) (w : World) (v : Value) (q : Lq) : Prop :=
  ∃ b m G, v = ptr18 b ∧ Blk w b [ptr18 m, .int .i64 q.id, .int .i64 q.holder] ∧ FqAt G w (ptr18 m) ⟨64, q.wait⟩ ∧ ¬ G b ∧ F b ∧ (∀ k, G k → F k) ∧ (∀ k, F k → k < w.heap.size) ∧ ∀ x ∈ q.wait, 1 ≤ x
theorem LkAt.same {F : Nat → Prop} {w w' : World} {v : Value} {q : Lq} (h : LkAt F w v q) (hz : w.heap.size ≤ w'.heap.size) (he : ∀ k, F k → w'.heap[k]? = w.heap[k]?) : LkAt F w' v q := by
  obtain ⟨b, m, G, rfl, h1, h2, h3, h4, h5, h6, h7⟩ := h
  exact ⟨b, m, G, rfl, h1.same (he b h4), h2.same hz fun k hk => he k (h5 k hk), h3, h4, h5, fun k hk => Nat.lt_of_lt_of_le (h6 k hk) hz, h7⟩
theorem LkAt.lt {F : Nat → Prop} {w : World} {v : Value} {q : Lq} (h : LkAt F w v q) : ∀ k, F k → k < w.heap.size := by
  obtain ⟨b, m, G, rfl, h1, h2, h3, h4, h5, h6, h7⟩ := h
  exact h6
theorem LkAt.kept {F : Nat → Prop} {w w' : World} {v : Value} {q : Lq} (h : LkAt F w v q) (hb : Below w.heap.size w w') : LkAt F w' v q := h.same hb.size fun k hk => hb.block k (h.lt k hk)
theorem FqAt.kept {F : Nat → Prop} {w w' : World} {v : Value} {q : Fq} (h : FqAt F w v q) (hb : Below w.heap.size w w') : FqAt F w' v q := h.same hb.size fun k hk => hb.block k (h.lt k hk)
/-- the queue has gone on, and the lock's own cells may be others -/
theorem LkAt.next {F G G' : Nat → Prop} {w w1 w2 : World} {b m : Nat} {id h : Int} {vs : List Value} {L : List Int} (h3 : ¬ G b) (h4 : F b) (h5 : ∀ k, G k → F k) (h6 : ∀ k, F k → k < w.heap.size) (hm : Mv G G' w w1) (ho : Only (fun k => k = b) w1 w2)
    (hb : Blk w2 b (ptr18 m :: .int .i64 id :: .int .i64 h :: vs)) (hq : FqAt G' w1 (ptr18 m) ⟨64, L⟩) (h7 : ∀ x ∈ L, 1 ≤ x) :
    ∃ F', LkAt F' w2 (ptr18 b) ⟨id, h, L⟩ ∧ Mv F F' w w2 := by
  have hbG : ¬ G' b := hm.off (h6 b h4) h3
  refine ⟨fun k => F k ∨ G' k, ⟨b, m, G', rfl, fun j u hu => hb j u ?_, hq.same ho.size fun k hk => ho.block k (hq.lt k hk) (fun e => hbG (e ▸ hk)), hbG, .inl h4, fun k hk => .inr hk, fun k hk => ?_, h7⟩, ?_, fun k hk => ?_⟩
  · match j, hu with
    | 0, hu => exact hu
    | 1, hu => exact hu
    | 2, hu => exact hu
    | _ + 3, hu => cases hu
  · have h8 := hm.only.size
    have h9 := ho.size
    rcases hk with hk | hk
    · have := h6 k hk
      omega
    · have := hq.lt k hk
      omega
  · exact (hm.only.mono h5).trans (ho.mono fun k hk => hk ▸ h4)
  · rcases hk with hk | hk
    · exact .inl hk
    · rcases hm.sub k hk with h | h
      · exact .inl (h5 k h)
      · exact .inr h

/-- those that wait, by value -/
abbrev wtv (m : Nat) : Value := .agg #[ptr18 m]
section
variable {w : World} {m : Nat} {L : List Int} {G : Nat → Prop}
set_option maxHeartbeats 2000000 in
theorem lkQueueUp_any (t : Int) (hq : FqAt G w (ptr18 m) ⟨64, L⟩) (ht : In18 t) : Calls Try.prog 17 #[wtv m, .int .i64 t] w fun e w' => e = .returned (.int .i64 (putF L 64 t).2) ∧ ∃ G', FqAt G' w' (ptr18 m) ⟨64, (putF L 64 t).1⟩ ∧ Mv G G' w w' := by
  have b1 := (Below.refl w.heap.size w).alloc (Nat.le_refl _) (.cells #[ptr18 m] 49)
  have H := Lib.hid (fPut_any t (hq.kept b1) ht)
  have c0 := (Blk.new w [ptr18 m] 49).cell 0 rfl
  have HB := Lib.hid b1
  generalize (putF L 64 t).1 = L' at *
  generalize (putF L 64 t).2 = r at *
  clear b1 hq ht
  go_enter Try.func17, Try.ntmps17
  go_wp2_with (go_at_call 25; (with_reducible refine H.out.mono ?_); rintro e w1 ⟨rfl, G', k1, k2⟩; have HQ := Lib.hid k1; have HM := Lib.hid ((Mv.of_below HB.out).trans k2); clear k1 k2)
  go_ret
  exact ⟨rfl, G', HQ.out, HM.out⟩
set_option maxHeartbeats 2000000 in
theorem lkCallNext_any (hq : FqAt G w (ptr18 m) ⟨64, L⟩) : Calls Try.prog 19 #[wtv m] w fun e w' => e = .returned (.tuple #[.int .i64 (hdF L).1, .bool (hdF L).2]) ∧ ∃ G', FqAt G' w' (ptr18 m) ⟨64, L.drop 1⟩ ∧ Mv G G' w w' := by
  have b1 := (Below.refl w.heap.size w).alloc (Nat.le_refl _) (.cells #[ptr18 m] 49)
  have H := Lib.hid (fTake_any (hq.kept b1))
  have c0 := (Blk.new w [ptr18 m] 49).cell 0 rfl
  have HB := Lib.hid b1
  simp only at H
  generalize (hdF L).1 = x at *
  generalize (hdF L).2 = r at *
  generalize L.drop 1 = L' at *
  clear b1 hq
  go_enter Try.func19, Try.ntmps19
  go_wp2_with (go_at_call 26; (with_reducible refine H.out.mono ?_); rintro e w1 ⟨rfl, G', k1, k2⟩; have HQ := Lib.hid k1; have HM := Lib.hid ((Mv.of_below HB.out).trans k2); clear k1 k2)
  exact bodyPost_ret (v := .tuple #[.int .i64 x, .bool r]) (by simp [results, Try.results19, go_sem]) rfl ⟨rfl, G', HQ.out, HM.out⟩
set_option maxHeartbeats 2000000 in
theorem lkGiveUp_any (t : Int) (hq : FqAt G w (ptr18 m) ⟨64, L⟩) (ht : In18 t) : Calls Try.prog 20 #[wtv m, .int .i64 t] w fun e w' => e = .returned (.bool (wasF L t)) ∧ ∃ G', FqAt G' w' (ptr18 m) ⟨64, dropF L t⟩ ∧ Mv G G' w w' := by
  have b1 := (Below.refl w.heap.size w).alloc (Nat.le_refl _) (.cells #[ptr18 m] 49)
  have H := Lib.hid (fDrop_any t (hq.kept b1) ht)
  have c0 := (Blk.new w [ptr18 m] 49).cell 0 rfl
  have HB := Lib.hid b1
  simp only at H
  generalize wasF L t = r at *
  generalize dropF L t = L' at *
  clear b1 hq ht
  go_enter Try.func20, Try.ntmps20
  go_wp2_with (go_at_call 27; (with_reducible refine H.out.mono ?_); rintro e w1 ⟨rfl, G', k1, k2⟩; have HQ := Lib.hid k1; have HM := Lib.hid ((Mv.of_below HB.out).trans k2); clear k1 k2)
  go_ret
  exact ⟨rfl, G', HQ.out, HM.out⟩
set_option maxHeartbeats 2000000 in
theorem lkNext_any (hq : FqAt G w (ptr18 m) ⟨64, L⟩) : Calls Try.prog 22 #[wtv m] w fun e w' => e = .returned (.tuple #[.int .i64 (hdF L).1, .bool (hdF L).2]) ∧ Below w.heap.size w w' := by
  have b1 := (Below.refl w.heap.size w).alloc (Nat.le_refl _) (.cells #[ptr18 m] 49)
  have H := Lib.hid (fProg.first (hq.kept b1))
  have c0 := (Blk.new w [ptr18 m] 49).cell 0 rfl
  have HB := Lib.hid b1
  simp only at H
  generalize (hdF L).1 = x at *
  generalize (hdF L).2 = r at *
  clear b1 hq
  go_enter Try.func22, Try.ntmps22
  go_wp2_with (go_at_call 28; (with_reducible refine H.out.mono ?_); rintro e w1 ⟨rfl, hb⟩; have HB2 := Lib.hid (HB.out.trans (hb.mono HB.out.size)); clear hb)
  exact bodyPost_ret (v := .tuple #[.int .i64 x, .bool r]) (by simp [results, Try.results22, go_sem]) rfl ⟨rfl, HB2.out⟩
set_option maxHeartbeats 2000000 in
theorem lkInOrder_any (hq : FqAt G w (ptr18 m) ⟨64, L⟩) : Calls Try.prog 24 #[wtv m] w fun e w' => ∃ v, e = .returned v ∧ OwnO w' 1 csI v L ∧ (∀ g, v.ownBlock = some g → w.heap.size ≤ g) ∧ Below w.heap.size w w' := by
  have b1 := (Below.refl w.heap.size w).alloc (Nat.le_refl _) (.cells #[ptr18 m] 49)
  have H := Lib.hid (show Calls Try.prog 29 #[ptr18 m] _ _ from by
    obtain ⟨p, m1, R, f, e, h1, h2, _⟩ := hq.kept b1
    obtain rfl : m = p := by simpa [ptr18] using e
    exact fList_own h1 h2)
  have c0 := (Blk.new w [ptr18 m] 49).cell 0 rfl
  have HB := Lib.hid b1
  clear b1 hq
  go_enter Try.func24, Try.ntmps24
  go_wp2_with (go_at_call 29; (with_reducible refine H.out.mono ?_); rintro e w1 ⟨v, rfl, h, hb⟩; have HI := Lib.hid (And.intro (OwnR.own h) (fun g hg => Nat.le_trans HB.out.size (World.ownsRow.lt h g hg).1)); have HB2 := Lib.hid (HB.out.trans (hb.mono HB.out.size)); clear h hb)
  go_ret
  exact ⟨_, rfl, HI.out.1, HI.out.2, HB2.out⟩
end

set_option maxHeartbeats 2000000 in
theorem lkNew_any (id : Int) (w : World) : Calls Try.prog 6 #[.int .i64 id] w fun e w' => ∃ p F, e = .returned p ∧ LkAt F w' p ⟨id, 0, []⟩ ∧ (∀ k, F k → w.heap.size ≤ k) ∧ Below w.heap.size w w' := by
  have H := Lib.hid fun w => fNew_any 64 w (by simp [In18])
  go_enter Try.func6, Try.ntmps6
  go_wp2_with (go_at_call 16; (with_reducible refine (H.out _).mono ?_); rintro e w1 ⟨v, G, rfl, h1, h2, h3⟩; obtain ⟨m, hm⟩ : ∃ m, v = ptr18 m := by { obtain ⟨m, _, _, _, rfl, _⟩ := h1; exact ⟨m, rfl⟩ }; subst hm; have HQ := Lib.hid h1; have HG := Lib.hid h2; have HB := Lib.hid h3; clear h1 h2 h3)
  go_ret
  have b1 := (Below.refl w1.heap.size w1).alloc (Nat.le_refl _) (.cells #[ptr18 m, .int .i64 id, .int .i64 0] 51)
  have hz : w.heap.size ≤ w1.heap.size := HB.out.size
  refine ⟨_, fun k => k = w1.heap.size ∨ G k, rfl, ⟨w1.heap.size, m, G, rfl, Blk.new w1 _ _, HQ.out.kept b1, fun h => Nat.lt_irrefl _ (HQ.out.lt _ h), .inl rfl, fun k hk => .inr hk, fun k hk => ?_, fun x hx => by cases hx⟩, fun k hk => ?_, HB.out.trans (b1.mono hz)⟩
  · rcases hk with rfl | hk
    · simp
    · have := HQ.out.lt k hk
      simp
      omega
  · rcases hk with rfl | hk
    · exact hz
    · exact HG.out k hk

set_option maxHeartbeats 4000000 in
set_option maxRecDepth 100000 in
theorem lkAsk_any {F : Nat → Prop} {w : World} {v : Value} {q : Lq} (t : Int) (h : LkAt F w v q) (ht : In18 t) :
    Calls Try.prog 7 #[v, .int .i64 t] w fun e w' => e = .returned (.int .i64 (askL q.holder q.wait t).2) ∧ ∃ F', LkAt F' w' v ⟨q.id, q.holder, (askL q.holder q.wait t).1⟩ ∧ Mv F F' w w' := by
  have h0 := h
  obtain ⟨b, m, G, rfl, h1, h2, h3, h4, h5, h6, h7⟩ := h
  obtain ⟨id, hd, L⟩ := q
  simp only at h1 h2 h7 h0 ⊢
  have c0 := h1.cell 0 rfl
  have c2 := h1.cell 2 rfl
  have H0 := Lib.hid h0
  by_cases e1 : t < 1
  · have ea : askL hd L t = (L, 1) := by unfold askL; rw [if_pos e1]
    rw [ea]
    clear ea h0 h1 h2 h3 h4 h5 h6 h7 ht
    go_enter Try.func7, Try.ntmps7
    go_wp2
    go_ret
    exact ⟨rfl, F, H0.out, Mv.refl _ _⟩
  by_cases e2 : t = hd
  · subst e2
    have ea : askL t L t = (L, 6) := by unfold askL; rw [if_neg e1, if_pos (.inl rfl)]
    rw [ea]
    clear ea h0 h1 h2 h3 h4 h5 h6 h7 ht
    go_enter Try.func7, Try.ntmps7
    go_wp2
    go_ret
    exact ⟨rfl, F, H0.out, Mv.refl _ _⟩
  · have ea : askL hd L t = putF L 64 t := by
      unfold askL putF
      rw [if_neg e1]
      by_cases e3 : t ∈ L
      · rw [if_pos (.inr e3), if_pos e3]
      · rw [if_neg (fun h => h.elim (fun h => e2 h.symm) e3), if_neg e3]
        by_cases e4 : 64 ≤ L.length
        · rw [if_pos e4, if_pos (by omega)]
        · rw [if_neg e4, if_neg (by omega)]
    have hp : ∀ x ∈ (putF L 64 t).1, 1 ≤ x := by
      intro x hx
      unfold putF at hx
      split at hx
      · exact h7 x hx
      · split at hx
        · exact h7 x hx
        · rcases List.mem_append.1 hx with hx | hx
          · exact h7 x hx
          · rw [List.mem_singleton] at hx
            omega
    rw [ea]
    have H := Lib.hid (lkQueueUp_any t h2 ht)
    have e2b : (t == hd) = false := beq_noI e2
    generalize (putF L 64 t).1 = L' at *
    generalize (putF L 64 t).2 = r at *
    have HK := Lib.hid (And.intro h1 (And.intro h3 (And.intro h4 (And.intro h5 (And.intro h6 hp)))))
    clear ea h0 h1 h2 h3 h4 h5 h6 h7 hp ht e2 H0
    go_enter Try.func7, Try.ntmps7
    go_wp2_with (go_at_call 17; (with_reducible refine H.out.mono ?_); rintro e w1 ⟨rfl, G', k1, k2⟩; have HQ := Lib.hid k1; have HM := Lib.hid k2; clear k1 k2)
    go_ret
    obtain ⟨h1, h3, h4, h5, h6, hp⟩ := HK.out
    exact ⟨rfl, LkAt.next h3 h4 h5 h6 HM.out (Only.refl _ _) (h1.same (HM.out.only.block b (h6 b h4) h3)) HQ.out hp⟩
theorem lkAsk_nil (t : Int) (w : World) : Calls Try.prog 7 #[.pointer none, .int .i64 t] w fun e w' => e = .returned (.int .i64 9) ∧ Below w.heap.size w w' := by
  go_enter Try.func7, Try.ntmps7
  go_wp2
  go_ret
  exact ⟨rfl, Below.refl _ _⟩

set_option maxHeartbeats 4000000 in
set_option maxRecDepth 100000 in
theorem lkGrant_any {F : Nat → Prop} {w : World} {v : Value} {q : Lq} (h : LkAt F w v q) :
    Calls Try.prog 9 #[v] w fun e w' => e = .returned (.tuple #[.int .i64 (grantL q.holder q.wait).2.2.1, .bool (grantL q.holder q.wait).2.2.2]) ∧ ∃ F', LkAt F' w' v ⟨q.id, (grantL q.holder q.wait).1, (grantL q.holder q.wait).2.1⟩ ∧ Mv F F' w w' := by
  have h0 := h
  obtain ⟨b, m, G, rfl, h1, h2, h3, h4, h5, h6, h7⟩ := h
  obtain ⟨id, hd, L⟩ := q
  simp only at h1 h2 h7 h0 ⊢
  have c0 := h1.cell 0 rfl
  have c2 := h1.cell 2 rfl
  have H0 := Lib.hid h0
  by_cases e1 : hd = 0
  · subst e1
    have H := Lib.hid (lkCallNext_any h2)
    have HK := Lib.hid (And.intro h1 (And.intro h3 (And.intro h4 (And.intro h5 (And.intro h6 h7)))))
    cases L with
    | nil =>
      have ea : grantL 0 [] = (0, [], 0, false) := by simp [grantL]
      rw [ea]
      simp only [hdF, List.drop_nil] at H
      clear ea h0 h1 h2 h3 h4 h5 h6 h7 H0
      go_enter Try.func9, Try.ntmps9
      go_wp2_with (go_at_call 19; (with_reducible refine H.out.mono ?_); rintro e w1 ⟨rfl, G', k1, k2⟩; have HQ := Lib.hid k1; have HM := Lib.hid k2; clear k1 k2)
      obtain ⟨h1, h3, h4, h5, h6, hp⟩ := HK.out
      exact bodyPost_ret (v := .tuple #[.int .i64 0, .bool false]) (by simp [results, Try.results9, go_sem]) rfl ⟨rfl, LkAt.next h3 h4 h5 h6 HM.out (Only.refl _ _) (h1.same (HM.out.only.block b (h6 b h4) h3)) HQ.out hp⟩
    | cons x T =>
      have ea : grantL 0 (x :: T) = (x, T, x, true) := by simp [grantL]
      rw [ea]
      simp only [hdF, List.drop_succ_cons, List.drop_zero] at H
      clear ea h0 h1 h2 h3 h4 h5 h6 h7 H0
      go_enter Try.func9, Try.ntmps9
      go_upto_region 5 with (go_at_call 19; (with_reducible refine H.out.mono ?_); rintro e w1 ⟨rfl, G', k1, k2⟩; have HQ := Lib.hid k1; have HM := Lib.hid k2; clear k1 k2)
      obtain ⟨h1, h3, h4, h5, h6, hp⟩ := HK.out
      have g1 := h1.same (HM.out.only.block b (h6 b h4) h3)
      have z2 := g1.free 2 rfl
      have c2' := g1.cell 2 rfl
      have HF := Lib.hid (LkAt.next h3 h4 h5 h6 HM.out ((Only.refl (fun k => k = b) w1).set ⟨b, 2, none⟩ (.int .i64 x) rfl) (g1.set 2 (.int .i64 x)) HQ.out fun y hy => hp y (List.mem_cons_of_mem _ hy))
      clear c0 c2 h1 h3 h4 h5 h6 hp g1 HK HQ HM H
      go_wp2
      exact bodyPost_ret (v := .tuple #[.int .i64 x, .bool true]) (by simp [results, Try.results9, go_sem]) rfl ⟨rfl, HF.out⟩
  · have ea : grantL hd L = (hd, L, 0, false) := by unfold grantL; rw [if_neg e1]
    have e2 : (hd != 0) = true := by simp [e1]
    rw [ea]
    clear ea h0 h1 h2 h3 h4 h5 h6 h7 e1
    go_enter Try.func9, Try.ntmps9
    go_wp2
    exact bodyPost_ret (v := .tuple #[.int .i64 0, .bool false]) (by simp [results, Try.results9, go_sem]) rfl ⟨rfl, F, H0.out, Mv.refl _ _⟩
theorem lkGrant_nil (w : World) : Calls Try.prog 9 #[.pointer none] w fun e w' => e = .returned (.tuple #[.int .i64 0, .bool false]) ∧ Below w.heap.size w w' := by
  go_enter Try.func9, Try.ntmps9
  go_wp2
  exact bodyPost_ret (v := .tuple #[.int .i64 0, .bool false]) (by simp [results, Try.results9, go_sem]) rfl ⟨rfl, Below.refl _ _⟩

set_option maxHeartbeats 4000000 in
set_option maxRecDepth 100000 in
theorem lkLeave_any {F : Nat → Prop} {w : World} {v : Value} {q : Lq} (t : Int) (h : LkAt F w v q) (ht : In18 t) :
    Calls Try.prog 11 #[v, .int .i64 t] w fun e w' => e = .returned (.int .i64 (leaveL q.holder q.wait t).2.2) ∧ ∃ F', LkAt F' w' v ⟨q.id, (leaveL q.holder q.wait t).1, (leaveL q.holder q.wait t).2.1⟩ ∧ Mv F F' w w' := by
  have h0 := h
  obtain ⟨b, m, G, rfl, h1, h2, h3, h4, h5, h6, h7⟩ := h
  obtain ⟨id, hd, L⟩ := q
  simp only at h1 h2 h7 h0 ⊢
  have c0 := h1.cell 0 rfl
  have c2 := h1.cell 2 rfl
  have z2 := h1.free 2 rfl
  have H0 := Lib.hid h0
  by_cases e1 : t < 1
  · have ea : leaveL hd L t = (hd, L, 0) := by
      unfold leaveL
      rw [if_neg (fun h => by omega), wasF_iff, inL_not.2 (fun h => by have := h7 t h; omega)]
      rfl
    rw [ea]
    clear ea h0 h1 h2 h3 h4 h5 h6 h7 ht
    go_enter Try.func11, Try.ntmps11
    go_wp2
    go_ret
    exact ⟨rfl, F, H0.out, Mv.refl _ _⟩
  by_cases e2 : t = hd
  · subst e2
    have ea : leaveL t L t = (0, L, 2) := by unfold leaveL; rw [if_pos ⟨by omega, rfl⟩]
    rw [ea]
    have HF := Lib.hid (LkAt.next h3 h4 h5 h6 (Mv.refl G w) ((Only.refl (fun k => k = b) w).set ⟨b, 2, none⟩ (.int .i64 0) rfl) (h1.set 2 (.int .i64 0)) h2 h7)
    clear ea h0 h1 h2 h3 h4 h5 h6 h7 ht
    go_enter Try.func11, Try.ntmps11
    go_wp2
    go_ret
    exact ⟨rfl, HF.out⟩
  · have e2b : (t == hd) = false := beq_noI e2
    have H := Lib.hid (lkGiveUp_any t h2 ht)
    have hp : ∀ x ∈ dropF L t, 1 ≤ x := fun x hx => h7 x ((dropF_mem L t x).1 hx).1
    have ea : leaveL hd L t = (hd, dropF L t, if wasF L t then 1 else 0) := by
      unfold leaveL
      rw [if_neg (fun h => e2 h.2.symm)]
      by_cases e3 : t ∈ L
      · rw [wasF_iff, inL_iff.2 e3]
        rfl
      · rw [wasF_iff, inL_not.2 e3, drop_none e3]
        rfl
    rw [ea]
    generalize dropF L t = L' at *
    generalize wasF L t = r at *
    have HK := Lib.hid (And.intro h1 (And.intro h3 (And.intro h4 (And.intro h5 (And.intro h6 hp)))))
    clear ea h0 h1 h2 h3 h4 h5 h6 h7 hp ht e2 H0
    cases r <;> simp only [if_true, Bool.false_eq_true, if_false]
    all_goals
      go_enter Try.func11, Try.ntmps11
      go_wp2_with (go_at_call 20; (with_reducible refine H.out.mono ?_); rintro e w1 ⟨rfl, G', k1, k2⟩; have HQ := Lib.hid k1; have HM := Lib.hid k2; clear k1 k2)
      go_ret
      obtain ⟨h1, h3, h4, h5, h6, hp⟩ := HK.out
      exact ⟨rfl, LkAt.next h3 h4 h5 h6 HM.out (Only.refl _ _) (h1.same (HM.out.only.block b (h6 b h4) h3)) HQ.out hp⟩
theorem lkLeave_nil (t : Int) (w : World) : Calls Try.prog 11 #[.pointer none, .int .i64 t] w fun e w' => e = .returned (.int .i64 0) ∧ Below w.heap.size w w' := by
  go_enter Try.func11, Try.ntmps11
  go_wp2
  go_ret
  exact ⟨rfl, Below.refl _ _⟩

set_option maxHeartbeats 2000000 in
theorem lkHead_any {F : Nat → Prop} {w : World} {v : Value} {q : Lq} (h : LkAt F w v q) : Calls Try.prog 13 #[v] w fun e w' => e = .returned (.tuple #[.int .i64 (hdF q.wait).1, .bool (hdF q.wait).2]) ∧ Below w.heap.size w w' := by
  obtain ⟨b, m, G, rfl, h1, h2, h3, h4, h5, h6, h7⟩ := h
  have c0 := h1.cell 0 rfl
  have H := Lib.hid (lkNext_any h2)
  generalize (hdF q.wait).1 = x at *
  generalize (hdF q.wait).2 = r at *
  clear h1 h2 h3 h4 h5 h6 h7
  go_enter Try.func13, Try.ntmps13
  go_wp2_with (go_at_call 22; (with_reducible refine H.out.mono ?_); rintro e w1 ⟨rfl, hb⟩; have HB2 := Lib.hid hb; clear hb)
  exact bodyPost_ret (v := .tuple #[.int .i64 x, .bool r]) (by simp [results, Try.results13, go_sem]) rfl ⟨rfl, HB2.out⟩
theorem lkHead_nil (w : World) : Calls Try.prog 13 #[.pointer none] w fun e w' => e = .returned (.tuple #[.int .i64 0, .bool false]) ∧ Below w.heap.size w w' := by
  go_enter Try.func13, Try.ntmps13
  go_wp2
  exact bodyPost_ret (v := .tuple #[.int .i64 0, .bool false]) (by simp [results, Try.results13, go_sem]) rfl ⟨rfl, Below.refl _ _⟩
end Go.Proofs.Ytdoanlemoegikaa
