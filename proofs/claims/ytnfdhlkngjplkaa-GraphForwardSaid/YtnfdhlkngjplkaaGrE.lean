/- Stage 16's program: what is told: a list in its box, a map of levels in its box; levelsOfTold. -/
import Derived.Test.YtnfdhlkngjplkaaGrD
namespace Go.Proofs.Ytnfdhlkngjplkaa
open Go.RowKit

theorem hset1g {w : World} {b : Nat} {x : Value} {t : TypeId} (h : w.heap[b]? = some (.cells #[x] t)) (x' : Value) : (w.setCell ⟨b, 0, none⟩ x').heap[b]? = some (.cells #[x'] t) := by
  unfold World.setCell
  simp only [Array.getElem?_modify, if_pos, h, Option.map_some]
  rfl
/-- numbers that were told, in the box q -/
def JO (q : Nat) (t : List Int) (F : Nat → Prop) (w : World) : Prop := ∃ v, w.heap[q]? = some (.cells #[v] 22) ∧ OwnI w 0 v t ∧ ∀ k, F k ↔ k = q ∨ v.ownBlock = some k
theorem jo_tell (q : Nat) : TellJ (JO q) where
  lt := by
    rintro t F w ⟨v, h1, h2, h3⟩ k hk
    rcases (h3 k).1 hk with rfl | h
    · exact lt_of_block h1
    · exact (h2.cells k h).2.1
  out := by
    rintro t F w w' ⟨v, h1, h2, h3⟩ _ he
    exact ⟨v, (he q ((h3 q).2 (.inl rfl))).trans h1, h2.same fun k hk => he k ((h3 k).2 (.inr hk)), h3⟩
theorem jo_ne {q : Nat} {w : World} {v u : Value} {l : List Int} (hr : w.heap[q]? = some (.cells #[u] 22)) (h : OwnI w 0 v l) : v.ownBlock ≠ some q := fun e => by
  obtain ⟨_, _, cur, hc⟩ := h.cells q e
  rw [hr] at hc
  cases hc
/-- levels that were told, in the map tb of the box q -/
def JL (arcs : List Arc16) (q tb : Nat) (t : List Int) (F : Nat → Prop) (w : World) : Prop := w.heap[q]? = some (.cells #[.map (some tb)] 37) ∧ MapI w tb t.length (gT arcs t) ∧ ∀ k, F k ↔ k = q ∨ k = tb
theorem jl_tell (arcs : List Arc16) (q tb : Nat) : TellJ (JL arcs q tb) where
  lt := by
    rintro t F w ⟨h1, h2, h3⟩ k hk
    rcases (h3 k).1 hk with rfl | rfl
    · exact lt_of_block h1
    · exact h2.lt
  out := by
    rintro t F w w' ⟨h1, h2, h3⟩ _ he
    exact ⟨(he q ((h3 q).2 (.inl rfl))).trans h1, h2.same (he tb ((h3 tb).2 (.inr rfl))), h3⟩

set_option maxHeartbeats 1000000 in
theorem gLt1_any (arcs : List Arc16) (q tb : Nat) (t : List Int) (F : Nat → Prop) (w : World) (x : Int) (h : JL arcs q tb t F w) (hx : x ∉ t) (hx64 : I64 x) (ht : t.length ≤ 30) :
    Calls Try.prog 34 #[.int .i64 x, .int .i64 (lvG arcs t x), .pointer (some ⟨q, 0, none⟩)] w fun e w' => e = .returned (.tuple #[]) ∧ ∃ F', JL arcs q tb (t ++ [x]) F' w' ∧ Mv F F' w w' := by
  obtain ⟨h1, h2, h3⟩ := h
  have hb := lvG_bd arcs t x
  have c0 : w.cell? ⟨q, 0, none⟩ = some (.map (some tb)) := by simp [World.cell?, h1]
  obtain ⟨w1, hrun, h4, h5⟩ := h2.put (by omega) hx64 (lvG arcs t x) (by unfold I64; omega)
  rw [gT_some, inL_not.2 hx, if_neg (by simp), show updG (gT arcs t) x (some (lvG arcs t x)) = gT arcs (t ++ [x]) by rw [gT_snoc]; rfl] at h4
  have hq : q ≠ tb := fun e => MapG.ne h2 h1 e.symm
  have hfin : JL arcs q tb (t ++ [x]) F w1 := ⟨(h5.block q (lt_of_block h1) fun e => hq (by injection e)).trans h1, by rw [List.length_append]; exact h4, h3⟩
  have HF := Lib.hid hfin
  have HM := Lib.hid (show Mv F F w w1 from ⟨Only.grown h5 fun k e => (h3 k).2 (.inr (by injection e with e; exact e.symm)), fun k hk => .inl hk⟩)
  generalize lvG arcs t x = lv at *
  clear h1 h2 h3 h4 h5 hfin hx hb hq ht
  go_enter Try.func34, Try.ntmps34
  go_wp2
  go_end0
  exact ⟨rfl, F, HF.out, HM.out⟩

-- (closures)

set_option maxHeartbeats 1000000 in
theorem gOrd1_any (q : Nat) (t : List Int) (F : Nat → Prop) (w : World) (x : Int) (lv : Int) (h : JO q t F w) (ht : t.length ≤ 1000) :
    Calls Try.prog 21 #[.int .i64 x, .int .i64 lv, .pointer (some ⟨q, 0, none⟩)] w fun e w' => e = .returned (.tuple #[]) ∧ ∃ F', JO q (t ++ [x]) F' w' ∧ Mv F F' w w' := by
  obtain ⟨i0, hi, hz0, hz1, hz2⟩ := info_parts info_int
  obtain ⟨v, h1, h2, h3⟩ := h
  have hal := (Below.refl w.heap.size w).alloc (Nat.le_refl _) (.cells #[.int .i64 x] 3)
  have hr4 : (w.alloc (.cells #[.int .i64 x] 3)).heap[q]? = some (.cells #[v] 22) := (Below.heap_alloc w _ q (lt_of_block h1)).trans h1
  have ho4 := OwnR.alloc h2 (.cells #[.int .i64 x] 3)
  have c0 : w.cell? ⟨q, 0, none⟩ = some v := by simp [World.cell?, h1]
  have HNE := Lib.hid (jo_ne h1 h2)
  have HQ := Lib.hid (lt_of_block h1)
  have HR4 := Lib.hid hr4
  have HO4 := Lib.hid ho4
  have H3 := Lib.hid h3
  have HAL := Lib.hid hal
  obtain ⟨a, c, hv⟩ := (OwnI.ints h2).form
  subst hv
  clear h1 h2 h3 hr4 ho4 hal
  go_enter Try.func21, Try.ntmps21
  go_wp2_with (at_builtin; refine wpList_append_lies _ rfl _ _ 22 rfl 0 3 i0 (.int .i64 0) 1 8 Try.underlying22 hi hz0 hz1 hz2 rfl (by omega) (.slice a t.length c) t.length (flats csI t) rfl HO4.out ⟨w.heap.size, 0, none⟩ 1 1 [.int .i64 x] rfl rfl (World.news_of_block (cs := #[.int .i64 x]) (t := 3) (fr := (0, 0)) (heap_alloc_new w _)) (by simp [Value.oneCell']) (by omega) (by unfold maxLen; omega) (by omega) (Nat.zero_le _) (w.heap.size + 1) (by simp) ?_; intro gg cap w5 ho5 hg5 hat5 hlt5; have hr5 := (hg5.block q (by have := HQ.out; simp; omega) (fun e => HNE.out e.symm)).trans HR4.out; have c5 : w5.cell? ⟨q, 0, none⟩ = some (.slice a t.length c) := (by simp [World.cell?, hr5]); have z5 : w5.frozen? ⟨q, 0, none⟩ = false := (by simp [World.frozen?, hr5]); have O5 : Hid (OwnI w5 0 (.slice (some ⟨gg, 0, none⟩) (t.length + 1) cap) (t ++ [x])) := Lib.hid (OwnR.snoc ho5 rfl rfl); have R5 := Lib.hid hr5; have G5 := Lib.hid hg5; have A5 := Lib.hid hat5; clear ho5 hr5 hg5 hat5 hlt5)
  go_end0
  have hgq : gg ≠ q := fun e => by
    rcases A5.out with h | h
    · exact HNE.out (e ▸ h)
    · have := HQ.out; omega
  have hgrow := (Only.of_below (F := F) HAL.out).trans (Only.grown G5.out fun k e => (H3.out k).2 (.inr e))
  refine ⟨rfl, fun k => k = q ∨ k = gg, ⟨_, hset1g R5.out _, OwnR.away O5.out _ _ (by simpa [Value.ownBlock] using hgq), fun k => ?_⟩, ⟨hgrow.set _ _ ((H3.out q).2 (.inl rfl)), fun k hk => ?_⟩⟩
  · simp [Value.ownBlock, eq_comm]
  · rcases hk with rfl | rfl
    · exact .inl ((H3.out k).2 (.inl rfl))
    · rcases A5.out with h | h
      · exact .inl ((H3.out k).2 (.inr h))
      · exact .inr (by omega)

set_option maxHeartbeats 1000000 in
theorem gRch1_any (q : Nat) (t : List Int) (F : Nat → Prop) (w : World) (x : Int) (h : JO q t F w) (ht : t.length ≤ 1000) :
    Calls Try.prog 26 #[.int .i64 x, .pointer (some ⟨q, 0, none⟩)] w fun e w' => e = .returned (.tuple #[]) ∧ ∃ F', JO q (t ++ [x]) F' w' ∧ Mv F F' w w' := by
  obtain ⟨i0, hi, hz0, hz1, hz2⟩ := info_parts info_int
  obtain ⟨v, h1, h2, h3⟩ := h
  have hal := (Below.refl w.heap.size w).alloc (Nat.le_refl _) (.cells #[.int .i64 x] 3)
  have hr4 : (w.alloc (.cells #[.int .i64 x] 3)).heap[q]? = some (.cells #[v] 22) := (Below.heap_alloc w _ q (lt_of_block h1)).trans h1
  have ho4 := OwnR.alloc h2 (.cells #[.int .i64 x] 3)
  have c0 : w.cell? ⟨q, 0, none⟩ = some v := by simp [World.cell?, h1]
  have HNE := Lib.hid (jo_ne h1 h2)
  have HQ := Lib.hid (lt_of_block h1)
  have HR4 := Lib.hid hr4
  have HO4 := Lib.hid ho4
  have H3 := Lib.hid h3
  have HAL := Lib.hid hal
  obtain ⟨a, c, hv⟩ := (OwnI.ints h2).form
  subst hv
  clear h1 h2 h3 hr4 ho4 hal
  go_enter Try.func26, Try.ntmps26
  go_wp2_with (at_builtin; refine wpList_append_lies _ rfl _ _ 22 rfl 0 3 i0 (.int .i64 0) 1 8 Try.underlying22 hi hz0 hz1 hz2 rfl (by omega) (.slice a t.length c) t.length (flats csI t) rfl HO4.out ⟨w.heap.size, 0, none⟩ 1 1 [.int .i64 x] rfl rfl (World.news_of_block (cs := #[.int .i64 x]) (t := 3) (fr := (0, 0)) (heap_alloc_new w _)) (by simp [Value.oneCell']) (by omega) (by unfold maxLen; omega) (by omega) (Nat.zero_le _) (w.heap.size + 1) (by simp) ?_; intro gg cap w5 ho5 hg5 hat5 hlt5; have hr5 := (hg5.block q (by have := HQ.out; simp; omega) (fun e => HNE.out e.symm)).trans HR4.out; have c5 : w5.cell? ⟨q, 0, none⟩ = some (.slice a t.length c) := (by simp [World.cell?, hr5]); have z5 : w5.frozen? ⟨q, 0, none⟩ = false := (by simp [World.frozen?, hr5]); have O5 : Hid (OwnI w5 0 (.slice (some ⟨gg, 0, none⟩) (t.length + 1) cap) (t ++ [x])) := Lib.hid (OwnR.snoc ho5 rfl rfl); have R5 := Lib.hid hr5; have G5 := Lib.hid hg5; have A5 := Lib.hid hat5; clear ho5 hr5 hg5 hat5 hlt5)
  go_end0
  have hgq : gg ≠ q := fun e => by
    rcases A5.out with h | h
    · exact HNE.out (e ▸ h)
    · have := HQ.out; omega
  have hgrow := (Only.of_below (F := F) HAL.out).trans (Only.grown G5.out fun k e => (H3.out k).2 (.inr e))
  refine ⟨rfl, fun k => k = q ∨ k = gg, ⟨_, hset1g R5.out _, OwnR.away O5.out _ _ (by simpa [Value.ownBlock] using hgq), fun k => ?_⟩, ⟨hgrow.set _ _ ((H3.out q).2 (.inl rfl)), fun k hk => ?_⟩⟩
  · simp [Value.ownBlock, eq_comm]
  · rcases hk with rfl | rfl
    · exact .inl ((H3.out k).2 (.inl rfl))
    · rcases A5.out with h | h
      · exact .inl ((H3.out k).2 (.inr h))
      · exact .inr (by omega)
end Go.Proofs.Ytnfdhlkngjplkaa
