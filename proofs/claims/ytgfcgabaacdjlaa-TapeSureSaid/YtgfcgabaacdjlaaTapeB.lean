/- Stage 11's program: what changes a tape. -/
import Derived.Test.YtgfcgabaacdjlaaTapeA
import Derived.Lib.MinMax
namespace Go.Proofs.Ytgfcgabaacdjlaa
open Go.RowKit

theorem info8 : (Try.prog.info? 5).map (fun i => (i.zero, i.size, i.bytes)) = some (some (.int .u8 0), 1, 1) := info_byte

/-- what is held has grown -/
theorem TapeAt.more {F : Nat → Prop} {w w1 : World} {p : Nat} {H L : List UInt8} {vh vl v' : Value} {m : List UInt8} (h : TapeAt F w p H L vh vl) (ho : OwnO w1 1 csB v' (H ++ m)) (hg : w.grownBy w1 vh.ownBlock) (hat : v'.ownBlock = vh.ownBlock ∨ v'.ownBlock = some w.heap.size) :
    TapeAt (fun k => F k ∨ v'.ownBlock = some k) (w1.setCell ⟨p, 0, none⟩ v') p (H ++ m) L v' vl ∧ Mv F (fun k => F k ∨ v'.ownBlock = some k) w (w1.setCell ⟨p, 0, none⟩ v') := by
  have hp := h.blk.lt
  have hpn : some p ≠ vh.ownBlock := fun e => (h.fh p e.symm).2 rfl
  have hv : ∀ k, v'.ownBlock = some k → k ≠ p ∧ (F k ∨ k = w.heap.size) := fun k hk => by
    rcases hat with e | e
    · rw [e] at hk
      exact ⟨(h.fh k hk).2, .inl (h.fh k hk).1⟩
    · rw [e] at hk
      cases hk
      exact ⟨by omega, .inr rfl⟩
  refine ⟨⟨?_, ho.away _ _ fun k hk => (hv k hk).1, ?_, .inl h.fp, fun k hk => ⟨.inr hk, (hv k hk).1⟩, fun k hk => ⟨.inl (h.fl k hk).1, (h.fl k hk).2⟩, fun k hk hl => ?_, fun k hk => ?_⟩, ?_, fun k hk => ?_⟩
  · have := (h.blk.grown hg hpn).set 0 v'
    simpa using this
  · refine (h.loose.grown hg fun k hk e => ?_).away _ _ fun k hk => (h.fl k hk).2
    exact h.sep k e.symm hk
  · rcases hat with e | e
    · rw [e] at hk
      exact h.sep k hk hl
    · rw [e] at hk
      cases hk
      have := h.loose.lt _ hl
      omega
  · simp only [World.setCell, Array.size_modify]
    rcases hk with hk | hk
    · exact Nat.lt_of_lt_of_le (h.lt k hk) hg.size
    · exact ho.lt k hk
  · exact (Only.grown hg fun k hk => (h.fh k hk).1).set _ _ h.fp
  · rcases hk with hk | hk
    · exact .inl hk
    · rcases (hv k hk).2 with h1 | h1
      · exact .inl h1
      · exact .inr (by omega)
/-- what is loose has grown -/
theorem TapeAt.moreL {F : Nat → Prop} {w w1 : World} {p : Nat} {H L : List UInt8} {vh vl v' : Value} {m : List UInt8} (h : TapeAt F w p H L vh vl) (ho : OwnO w1 1 csB v' (L ++ m)) (hg : w.grownBy w1 vl.ownBlock) (hat : v'.ownBlock = vl.ownBlock ∨ v'.ownBlock = some w.heap.size) :
    TapeAt (fun k => F k ∨ v'.ownBlock = some k) (w1.setCell ⟨p, 1, none⟩ v') p H (L ++ m) vh v' ∧ Mv F (fun k => F k ∨ v'.ownBlock = some k) w (w1.setCell ⟨p, 1, none⟩ v') := by
  have hp := h.blk.lt
  have hpn : some p ≠ vl.ownBlock := fun e => (h.fl p e.symm).2 rfl
  have hv : ∀ k, v'.ownBlock = some k → k ≠ p ∧ (F k ∨ k = w.heap.size) := fun k hk => by
    rcases hat with e | e
    · rw [e] at hk
      exact ⟨(h.fl k hk).2, .inl (h.fl k hk).1⟩
    · rw [e] at hk
      cases hk
      exact ⟨by omega, .inr rfl⟩
  refine ⟨⟨?_, ?_, ho.away _ _ fun k hk => (hv k hk).1, .inl h.fp, fun k hk => ⟨.inl (h.fh k hk).1, (h.fh k hk).2⟩, fun k hk => ⟨.inr hk, (hv k hk).1⟩, fun k hk hl => ?_, fun k hk => ?_⟩, ?_, fun k hk => ?_⟩
  · have := (h.blk.grown hg hpn).set 1 v'
    simpa using this
  · refine (h.held.grown hg fun k hk e => ?_).away _ _ fun k hk => (h.fh k hk).2
    exact h.sep k hk e.symm
  · rcases hat with e | e
    · rw [e] at hl
      exact h.sep k hk hl
    · rw [e] at hl
      cases hl
      have := h.held.lt _ hk
      omega
  · simp only [World.setCell, Array.size_modify]
    rcases hk with hk | hk
    · exact Nat.lt_of_lt_of_le (h.lt k hk) hg.size
    · exact ho.lt k hk
  · exact (Only.grown hg fun k hk => (h.fl k hk).1).set _ _ h.fp
  · rcases hk with hk | hk
    · exact .inl hk
    · rcases (hv k hk).2 with h1 | h1
      · exact .inl h1
      · exact .inr (by omega)

set_option maxHeartbeats 2000000 in
theorem tHold_any {F : Nat → Prop} {p : Nat} {H L : List UInt8} {vh vl : Value} (vb : Value) (m : List UInt8) (w : World) (h : TapeAt F w p H L vh vl) (hb : BytesAt w vb m) (hn : H.length + m.length ≤ 1000000000) :
    Calls Try.prog 20 #[ptr p, vb] w fun e w' => e = .returned (.tuple #[]) ∧ ∃ vh' F', TapeAt F' w' p (H ++ m) L vh' vl ∧ Mv F F' w w' := by
  obtain ⟨i0, hi, hz0, hz1, hz2⟩ := info_parts info8
  have HT := Lib.hid h
  have HM := Lib.hid hb
  have c0 := h.blk.cell 0 rfl
  have hf : ∀ w1 : World, w.grownBy w1 vh.ownBlock → Blk w1 p [vh, vl] := fun w1 hg => h.blk.grown hg fun e => (h.fh p e.symm).2 rfl
  have HF := Lib.hid hf
  obtain ⟨a, c, rfl⟩ := h.held.form
  obtain ⟨a', c', rfl⟩ := RowsAt.form hb
  clear h hb hf
  go_enter Try.func20, Try.ntmps20
  go_wp2_with (at_builtin; refine wpList_append_o rfl _ _ _ _ rfl csB_len (by decide) csB_one 5 5 i0 (.int .u8 0) Try.underlying27 Try.underlying27 hi hz0 hz1 rfl rfl HT.out.held _ m rfl HM.out (by unfold maxLen; omega) (by rw [hz2]; omega) ?_)
  intro v' w1 ho hg hat
  obtain ⟨a2, c2, e2⟩ := ho.form
  rw [List.length_append] at e2
  subst e2
  have HR := Lib.hid (HT.out.more ho hg hat)
  have hB := HF.out _ hg
  have k0 := hB.cell 0 rfl
  have k1 := hB.free 0 rfl
  clear ho hg hat hB
  go_wp2
  go_end0
  exact ⟨rfl, _, _, HR.out.1, HR.out.2⟩

/-- the first of what is held are gone -/
theorem TapeAt.less {F : Nat → Prop} {w : World} {p : Nat} {H L : List UInt8} {vh vl v' : Value} {k : Nat} (h : TapeAt F w p H L vh vl) (ho : OwnO w 1 csB v' (H.drop k)) (hat : v'.ownBlock = vh.ownBlock) :
    TapeAt F (w.setCell ⟨p, 0, none⟩ v') p (H.drop k) L v' vl ∧ Mv F F w (w.setCell ⟨p, 0, none⟩ v') := by
  refine ⟨⟨?_, ho.away _ _ fun k hk => (h.fh k (by rw [← hat]; exact hk)).2, h.loose.away _ _ fun k hk => (h.fl k hk).2, h.fp, fun k hk => h.fh k (by rw [← hat]; exact hk), h.fl, fun k hk => h.sep k (by rw [← hat]; exact hk), fun k hk => ?_⟩, (Only.refl _ _).set _ _ h.fp, fun k hk => .inl hk⟩
  · have := h.blk.set 0 v'
    simpa using this
  · simp only [World.setCell, Array.size_modify]
    exact h.lt k hk
/-- nothing is loose -/
theorem TapeAt.tight {F : Nat → Prop} {w : World} {p : Nat} {H L : List UInt8} {vh vl : Value} (h : TapeAt F w p H L vh vl) :
    TapeAt F (w.setCell ⟨p, 1, none⟩ (.slice none 0 0)) p H [] vh (.slice none 0 0) ∧ Mv F F w (w.setCell ⟨p, 1, none⟩ (.slice none 0 0)) := by
  refine ⟨⟨?_, h.held.away _ _ fun k hk => (h.fh k hk).2, OwnO.nil _ _ _, h.fp, h.fh, fun k hk => (by cases hk), fun k _ hl => (by cases hl), fun k hk => ?_⟩, (Only.refl _ _).set _ _ h.fp, fun k hk => .inl hk⟩
  · have := h.blk.set 1 (.slice none 0 0)
    simpa using this
  · simp only [World.setCell, Array.size_modify]
    exact h.lt k hk

set_option maxHeartbeats 2000000 in
theorem tLose_any {F : Nat → Prop} {p : Nat} {H L : List UInt8} {vh vl : Value} (n : Nat) (w : World) (h : TapeAt F w p H L vh vl) (hn : n ≤ H.length) (h0 : 0 < n) (hH : H.length ≤ 1000000000) :
    Calls Try.prog 21 #[ptr p, .int .i64 (n : Int)] w fun e w' => e = .returned (.tuple #[]) ∧ ∃ vh', TapeAt F w' p (H.drop n) L vh' vl ∧ Mv F F w w' := by
  have HT := Lib.hid h
  have c0 := h.blk.cell 0 rfl
  have z0 := h.blk.free 0 rfl
  rcases h.held with ⟨_, rfl⟩ | ⟨g, o, c, rfl, _, hc, _⟩
  · simp at hn
    omega
  have HC := Lib.hid hc
  have n1 : (n : Int) ≤ (H.length : Int) := by omega
  have e1 : ((H.length - n : Nat) : Int) = (H.length : Int) - n := by omega
  clear h hc hn
  by_cases hcn : c = n
  · subst hcn
    have hH0 : H.length - c = 0 := by have := HC.out; omega
    have hd := HT.out.held.drop c (by have := HC.out; omega) csB_len (some ⟨g, o, none⟩) (fun h => by omega) (fun _ => rfl)
    rw [hH0, Nat.sub_self] at hd
    have HD := Lib.hid (HT.out.less hd rfl)
    clear hd
    go_enter Try.func21, Try.ntmps21
    go_wp2
    go_end0
    exact ⟨rfl, _, HD.out.1, HD.out.2⟩
  · have hd := HT.out.held.drop n (by omega) csB_len (some ⟨g, o + n, none⟩) (fun _ g' o' e => by cases e; simp) (fun h => by have := HC.out; omega)
    have HD := Lib.hid (HT.out.less hd rfl)
    clear hd
    go_enter Try.func21, Try.ntmps21
    go_wp2
    go_end0
    exact ⟨rfl, _, HD.out.1, HD.out.2⟩

set_option maxHeartbeats 2000000 in
theorem tWrite_any {F : Nat → Prop} {p : Nat} {H L : List UInt8} {vh vl : Value} (vb : Value) (m : List UInt8) (w : World) (h : TapeAt F w p H L vh vl) (hb : BytesAt w vb m) (hn : L.length + m.length ≤ 1000000000) :
    Calls Try.prog 14 #[ptr p, vb] w fun e w' => e = .returned (.tuple #[]) ∧ ∃ vl' F', TapeAt F' w' p H (L ++ m) vh vl' ∧ Mv F F' w w' := by
  obtain ⟨i0, hi, hz0, hz1, hz2⟩ := info_parts info8
  have HT := Lib.hid h
  have HM := Lib.hid hb
  have c1 := h.blk.cell 1 rfl
  have hf : ∀ w1 : World, w.grownBy w1 vl.ownBlock → Blk w1 p [vh, vl] := fun w1 hg => h.blk.grown hg fun e => (h.fl p e.symm).2 rfl
  have HF := Lib.hid hf
  obtain ⟨a, c, rfl⟩ := h.loose.form
  obtain ⟨a', c', rfl⟩ := RowsAt.form hb
  clear h hb hf
  go_enter Try.func14, Try.ntmps14
  go_wp2_with (at_builtin; refine wpList_append_o rfl _ _ _ _ rfl csB_len (by decide) csB_one 5 5 i0 (.int .u8 0) Try.underlying27 Try.underlying27 hi hz0 hz1 rfl rfl HT.out.loose _ m rfl HM.out (by unfold maxLen; omega) (by rw [hz2]; omega) ?_)
  intro v' w1 ho hg hat
  obtain ⟨a2, c2, e2⟩ := ho.form
  rw [List.length_append] at e2
  subst e2
  have HR := Lib.hid (HT.out.moreL ho hg hat)
  have hB := HF.out _ hg
  have k0 := hB.cell 1 rfl
  have k1 := hB.free 1 rfl
  clear ho hg hat hB
  go_wp2
  go_end0
  exact ⟨rfl, _, _, HR.out.1, HR.out.2⟩
theorem tWrite_nil (vb : Value) (w : World) : Calls Try.prog 14 #[.pointer none, vb] w fun e w' => e = .returned (.tuple #[]) ∧ Below w.heap.size w w' := by
  go_enter Try.func14, Try.ntmps14
  go_wp2
  go_end0
  exact ⟨rfl, Below.refl _ _⟩

set_option maxHeartbeats 2000000 in
theorem tCrash_any {F : Nat → Prop} {p : Nat} {H L : List UInt8} {vh vl : Value} (n : Int) (w : World) (h : TapeAt F w p H L vh vl) (hn : H.length + L.length ≤ 1000000000) :
    Calls Try.prog 13 #[ptr p, .int .i64 n] w fun e w' => e = .returned (.tuple #[]) ∧ ∃ vh' F', TapeAt F' w' p (H ++ L.take (min (max n 0) (L.length : Int)).toNat) [] vh' (.slice none 0 0) ∧ Mv F F' w w' := by
  have HT := Lib.hid h
  have c1 := h.blk.cell 1 rfl
  have z1 := h.blk.free 1 rfl
  obtain ⟨a, c, rfl⟩ := h.loose.form
  have hlc : L.length ≤ c := by
    obtain ⟨_, _, e, h, _⟩ := h.loose.rows csB_len
    cases e
    exact h
  obtain ⟨s, hs⟩ : ∃ s, max n 0 = s := ⟨_, rfl⟩
  obtain ⟨k, hk⟩ : ∃ k : Nat, min s (L.length : Int) = (k : Int) := ⟨(min s (L.length : Int)).toNat, by omega⟩
  rw [hs, hk, Int.toNat_natCast]
  have k1 : (k : Int) ≤ (c : Int) := by omega
  have hkl : k ≤ L.length := by omega
  have hold : ∀ w1 : World, Below w.heap.size w w1 → Calls Try.prog 20 #[ptr p, .slice a k c] w1 fun e w' => e = .returned (.tuple #[]) ∧ ∃ vh' F', TapeAt F' w' p (H ++ L.take k) L vh' (.slice a L.length c) ∧ Mv F F' w1 w' := fun w1 hb1 =>
    tHold_any _ (L.take k) w1 (HT.out.kept hb1) (((HT.out.kept hb1).loose.rows csB_len).front k hkl) (by rw [List.length_take]; omega)
  have HO := Lib.hid hold
  clear h hold hlc
  go_enter Try.func13, Try.ntmps13
  go_wp2
  refine wp_region_calmT 9 (by kernel_rfl) (by simp) (by kernel_rfl) fun M => ?_
  simp only [List.take_succ_cons, List.take_zero, List.drop_succ_cons, List.drop_zero]
  have e1 := fun n : In M.w => n.cell (M.cell c1)
  repeat (go_big_quiet_step (fail))
  refine wpQuiet_nil ?_
  intro w1 hb
  go_wp2_with (go_at_call 20; (with_reducible refine (HO.out _ hb).mono ?_); rintro e w2 ⟨rfl, vh', F', ht, hmv⟩; have HR := Lib.hid ht.tight; have HV := Lib.hid hmv; have d1 := ht.blk.cell 1 rfl; have y1 := ht.blk.free 1 rfl; clear ht hmv)
  go_end0
  exact ⟨rfl, _, _, HR.out.1, (Mv.of_below hb).trans (HV.out.trans HR.out.2)⟩
theorem tCrash_nil (n : Int) (w : World) : Calls Try.prog 13 #[.pointer none, .int .i64 n] w fun e w' => e = .returned (.tuple #[]) ∧ Below w.heap.size w w' := by
  go_enter Try.func13, Try.ntmps13
  go_wp2
  go_end0
  exact ⟨rfl, Below.refl _ _⟩
end Go.Proofs.Ytgfcgabaacdjlaa
