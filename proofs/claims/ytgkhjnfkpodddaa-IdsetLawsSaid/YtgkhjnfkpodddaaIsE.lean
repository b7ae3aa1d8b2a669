/- Stage 17's program: pick: the numbers that are wanted, in a list of one's own. -/
import Derived.Test.YtgkhjnfkpodddaaIsD
namespace Go.Proofs.Ytgkhjnfkpodddaa
open Go.RowKit

theorem OwnI.same17 {w w' : World} {B : Nat} {v : Value} {l : List Int} (h : OwnI w B v l) (he : ∀ k, v.ownBlock = some k → w'.heap[k]? = w.heap[k]?) : OwnI w' B v l := by
  refine ⟨h.1, ?_⟩
  rcases h.2 with h0 | ⟨g, cap, cur, rfl, hg, hh, rest⟩
  · exact .inl h0
  · exact .inr ⟨g, cap, cur, rfl, hg, (he g rfl).trans hh, rest⟩
theorem OwnI.cells17 {w : World} {B : Nat} {v : Value} {l : List Int} (h : OwnI w B v l) : ∀ k, v.ownBlock = some k → B ≤ k ∧ k < w.heap.size ∧ ∃ cur, w.heap[k]? = some (.cells cur 3) := by
  intro k hk
  rcases h.2 with ⟨rfl, _⟩ | ⟨g, cap, cur, rfl, hg, hh, _⟩
  · simp [Value.ownBlock] at hk
  · simp [Value.ownBlock] at hk
    subst hk
    exact ⟨hg, lt_of_block hh, cur, hh⟩
theorem hset1p {w : World} {b : Nat} {x : Value} {t : TypeId} (h : w.heap[b]? = some (.cells #[x] t)) (x' : Value) : (w.setCell ⟨b, 0, none⟩ x').heap[b]? = some (.cells #[x'] t) := by
  unfold World.setCell
  simp only [Array.getElem?_modify, if_pos, h, Option.map_some]
  rfl
/-- numbers that were picked, in the box q -/
def JP (q : Nat) (t : List Int) (F : Nat → Prop) (w : World) : Prop := ∃ v, w.heap[q]? = some (.cells #[v] 22) ∧ OwnI w 0 v t ∧ ∀ k, F k ↔ k = q ∨ v.ownBlock = some k
theorem jp_keep (q : Nat) : KeepJ (JP q) where
  lt := by
    rintro t F w ⟨v, h1, h2, h3⟩ k hk
    rcases (h3 k).1 hk with rfl | h
    · exact lt_of_block h1
    · exact (OwnI.cells17 h2 k h).2.1
  out := by
    rintro t F w w' ⟨v, h1, h2, h3⟩ _ he
    exact ⟨v, (he q ((h3 q).2 (.inl rfl))).trans h1, OwnI.same17 h2 fun k hk => he k ((h3 k).2 (.inr hk)), h3⟩
theorem jp_ne {q : Nat} {w : World} {v u : Value} {l : List Int} (hr : w.heap[q]? = some (.cells #[u] 22)) (h : OwnI w 0 v l) : v.ownBlock ≠ some q := fun e => by
  obtain ⟨_, _, cur, hc⟩ := OwnI.cells17 h q e
  rw [hr] at hc
  cases hc
/-- beside the box bw of the function that is asked whether a number is wanted -/
def PkJ (bw : Nat) (tv : Value) (bp : Nat) (t : List Int) (F : Nat → Prop) (w : World) : Prop := ∃ Fp, Blk w bw [tv] ∧ ¬ Fp bw ∧ JP bp t Fp w ∧ ∀ k, F k ↔ Fp k ∨ k = bw
theorem pk_keep (bw : Nat) (tv : Value) (bp : Nat) : KeepJ (PkJ bw tv bp) where
  lt := by
    rintro t F w ⟨Fp, h1, h2, h3, h4⟩ k hk
    rcases (h4 k).1 hk with h | rfl
    · exact (jp_keep bp).lt h3 k h
    · exact h1.lt
  out := by
    rintro t F w w' ⟨Fp, h1, h2, h3, h4⟩ hz he
    exact ⟨Fp, h1.same (he bw ((h4 bw).2 (.inr rfl))), h2, (jp_keep bp).out h3 hz fun k hk => he k ((h4 k).2 (.inl hk)), h4⟩

set_option maxHeartbeats 1000000 in
theorem iPick1_any (P : Int → Bool) (g : FuncId) (q : Value) (eg : ∀ args w, (callFunc g args).run Try.prog w = .ok (.enter g args) w) (bw bp : Nat) (t : List Int) (F : Nat → Prop) (w : World) (x : Int)
    (h : PkJ bw (.func (.func g) #[] #[q]) bp t F w) (ht : t.length ≤ 1000000) (hT : Calls Try.prog g #[.int .i64 x, q] w fun e w' => e = .returned (.bool (P x)) ∧ Below w.heap.size w w') :
    Calls Try.prog 40 #[.int .i64 x, .pointer (some ⟨bw, 0, none⟩), .pointer (some ⟨bp, 0, none⟩)] w fun e w' => e = .returned (.tuple #[]) ∧ ∃ F', PkJ bw (.func (.func g) #[] #[q]) bp (pkS P t x) F' w' ∧ Mv F F' w w' := by
  obtain ⟨i0, hi, hz0, hz1, hz2⟩ := info_parts info_int
  have c0 := h.choose_spec.1.cell 0 rfl
  have HH := Lib.hid h
  have HT := Lib.hid hT
  unfold pkS
  cases hP : P x with
  | false =>
    rw [hP] at HT
    rw [if_neg (by simp)]
    clear h hT hP
    go_enter Try.func40, Try.ntmps40
    go_wp2_with (go_at_fn g; (with_reducible refine HT.out.mono ?_); rintro e w1 ⟨rfl, hb⟩)
    go_end0
    exact ⟨rfl, F, (pk_keep _ _ _).kept HH.out hb, Mv.of_below hb⟩
  | true =>
    rw [hP] at HT
    rw [if_pos rfl]
    clear h hT hP
    go_enter Try.func40, Try.ntmps40
    go_upto_region 1 with (go_at_fn g; (with_reducible refine HT.out.mono ?_); rintro e w1 ⟨rfl, hb⟩; have HB1 := Lib.hid hb; clear hb)
    obtain ⟨Fp, h1, h2, ⟨v, h3, h4, h5⟩, h6⟩ := (pk_keep _ _ _).kept HH.out HB1.out
    have hal := (Below.refl w1.heap.size w1).alloc (Nat.le_refl _) (.cells #[.int .i64 x] 3)
    have hr4 : (w1.alloc (.cells #[.int .i64 x] 3)).heap[bp]? = some (.cells #[v] 22) := (Below.heap_alloc w1 _ bp (lt_of_block h3)).trans h3
    have ho4 := OwnR.alloc h4 (.cells #[.int .i64 x] 3)
    have d0 : w1.cell? ⟨bp, 0, none⟩ = some v := by simp [World.cell?, h3]
    have HNE := Lib.hid (jp_ne h3 h4)
    have HQ := Lib.hid (lt_of_block h3)
    have HR4 := Lib.hid hr4
    have HO4 := Lib.hid ho4
    have H1 := Lib.hid h1
    have H2 := Lib.hid h2
    have H5 := Lib.hid h5
    have H6 := Lib.hid h6
    have HAL := Lib.hid hal
    obtain ⟨a, c, hv⟩ := (OwnI.ints h4).form
    subst hv
    clear h1 h2 h3 h4 h5 h6 hr4 ho4 hal c0
    go_wp2_with (at_builtin; refine wpList_append_lies _ rfl _ _ 22 rfl 0 3 i0 (.int .i64 0) 1 8 Try.underlying22 hi hz0 hz1 hz2 rfl (by omega) (.slice a t.length c) t.length (flats csI t) rfl HO4.out ⟨w1.heap.size, 0, none⟩ 1 1 [.int .i64 x] rfl rfl (World.news_of_block (cs := #[.int .i64 x]) (t := 3) (fr := (0, 0)) (heap_alloc_new w1 _)) (by simp [Value.oneCell']) (by omega) (by unfold maxLen; omega) (by omega) (Nat.zero_le _) (w1.heap.size + 1) (by simp) ?_; intro gg cap w5 ho5 hg5 hat5 hlt5; have hr5 := (hg5.block bp (by have := HQ.out; simp; omega) (fun e => HNE.out e.symm)).trans HR4.out; have c5 : w5.cell? ⟨bp, 0, none⟩ = some (.slice a t.length c) := (by simp [World.cell?, hr5]); have z5 : w5.frozen? ⟨bp, 0, none⟩ = false := (by simp [World.frozen?, hr5]); have O5 : Hid (OwnI w5 0 (.slice (some ⟨gg, 0, none⟩) (t.length + 1) cap) (t ++ [x])) := Lib.hid (OwnR.snoc ho5 rfl rfl); have R5 := Lib.hid hr5; have G5 := Lib.hid hg5; have A5 := Lib.hid hat5; clear ho5 hr5 hg5 hat5 hlt5)
    go_end0
    have hgq : gg ≠ bp := fun e => by
      rcases A5.out with h | h
      · exact HNE.out (e ▸ h)
      · have := HQ.out; omega
    have hgrow := (Only.of_below (F := Fp) HAL.out).trans (Only.grown G5.out fun k e => (H5.out k).2 (.inr e))
    have honly := hgrow.set ⟨bp, 0, none⟩ (.slice (some ⟨gg, 0, none⟩) (t.length + 1) cap) ((H5.out bp).2 (.inl rfl))
    have hbw := honly.block bw H1.out.lt H2.out
    have hgb : ∀ k, (k = bp ∨ k = gg) → Fp k ∨ w1.heap.size ≤ k := fun k hk => by
      rcases hk with rfl | rfl
      · exact .inl ((H5.out k).2 (.inl rfl))
      · rcases A5.out with h | h
        · exact .inl ((H5.out k).2 (.inr h))
        · exact .inr (by omega)
    have hmv : Mv F (fun k => (k = bp ∨ k = gg) ∨ k = bw) w1 (w5.setCell ⟨bp, 0, none⟩ (.slice (some ⟨gg, 0, none⟩) (t.length + 1) cap)) := by
      refine ⟨honly.mono fun k hk => (H6.out k).2 (.inl hk), fun k hk => ?_⟩
      rcases hk with hk | rfl
      · exact (hgb k hk).imp (fun h => (H6.out k).2 (.inl h)) id
      · exact .inl ((H6.out k).2 (.inr rfl))
    refine ⟨rfl, fun k => (k = bp ∨ k = gg) ∨ k = bw, ⟨fun k => k = bp ∨ k = gg, H1.out.same hbw, fun hk => ?_, ⟨_, hset1p R5.out _, OwnR.away O5.out _ _ (by simpa [Value.ownBlock] using hgq), fun k => by simp [Value.ownBlock, eq_comm]⟩, fun k => Iff.rfl⟩, (Mv.of_below HB1.out).trans hmv⟩
    rcases hgb bw hk with h | h
    · exact H2.out h
    · have := H1.out.lt; omega

set_option maxHeartbeats 1000000 in
theorem iPick_any (P : Int → Bool) (g : FuncId) (q : Value) (eg : ∀ args w, (callFunc g args).run Try.prog w = .ok (.enter g args) w) (va : Value) (l : List Int) (w : World) (ha : IntsAt w va l) (hl : l.length ≤ 1000000)
    (hT : ∀ w' x, x ∈ l → Below w.heap.size w w' → Calls Try.prog g #[.int .i64 x, q] w' fun e w'' => e = .returned (.bool (P x)) ∧ Below w'.heap.size w' w'') :
    Calls Try.prog 32 #[va, .func (.func g) #[] #[q]] w fun e w' => ∃ v, e = .returned v ∧ IntsAt w' v (l.filter P) ∧ Below w.heap.size w w' := by
  have hmf : ∀ (fn : Fn) (first cap : Array Value) (w : World), (Instr.makeFunc fn first cap).run Try.prog w = .ok (.func fn first cap) w := fun _ _ _ _ => rfl
  have b1 := (Below.refl w.heap.size w).alloc (Nat.le_refl _) (.cells #[.func (.func g) #[] #[q]] 36)
  have b2 := (Below.refl (w.alloc (.cells #[.func (.func g) #[] #[q]] 36)).heap.size (w.alloc (.cells #[.func (.func g) #[] #[q]] 36))).alloc (Nat.le_refl _) (.cells #[.slice none 0 0] 22)
  have hX1 := Blk.new w [.func (.func g) #[] #[q]] 36
  have hq := heap_alloc_new (w.alloc (.cells #[.func (.func g) #[] #[q]] 36)) (.cells #[.slice none 0 0] 22)
  have z1 : (w.alloc (.cells #[.func (.func g) #[] #[q]] 36)).heap.size = w.heap.size + 1 := by simp
  have hal := b1.trans (b2.mono b1.size)
  replace hX1 := hX1.kept b2
  rw [z1] at hq
  have hJP : JP (w.heap.size + 1) [] (fun k => k = w.heap.size + 1) ((w.alloc (.cells #[.func (.func g) #[] #[q]] 36)).alloc (.cells #[.slice none 0 0] 22)) := ⟨_, hq, OwnR.nil _ _ _ _ _, fun k => by simp [Value.ownBlock]⟩
  have hE := iEach_any (pk_keep w.heap.size (.func (.func g) #[] #[q]) (w.heap.size + 1)) (pkS P) 40 #[.pointer (some ⟨w.heap.size, 0, none⟩), .pointer (some ⟨w.heap.size + 1, 0, none⟩)] (fun _ _ => by kernel_rfl) va l _ (ha.below hal) hl []
    (fun k => k = w.heap.size + 1 ∨ k = w.heap.size) (fun h0 k hk hf => by have := ha.rows.lt h0 k hk; omega) ⟨fun k => k = w.heap.size + 1, hX1, by simp, hJP, fun k => Iff.rfl⟩ (fun k t => t.length ≤ k) (Nat.le_refl _)
    (fun k t x h => by
      show (pkS P t x).length ≤ k + 1
      replace h : t.length ≤ k := h
      unfold pkS
      split
      · rw [List.length_append, List.length_singleton]; omega
      · omega)
    (fun t F w' x k hx hk hr hj ho => iPick1_any P g q eg _ _ t F w' x hj (by omega) (hT w' x hx (hal.trans (ho.below (fun k hk => by omega) hal.size))))
  rw [pk_fold, List.nil_append] at hE
  have HE := Lib.hid hE
  have HAL := Lib.hid hal
  clear b1 b2 hX1 hq z1 hal hJP hE ha hT
  go_enter Try.func32, Try.ntmps32
  go_wp2_with (go_at_call 29; (with_reducible refine HE.out.mono ?_); rintro e w1 ⟨rfl, F', ⟨Fp, h1, h2, ⟨v, h3, h4, h5⟩, h6⟩, hm⟩; have HM := Lib.hid hm; have d0 : w1.cell? ⟨w.heap.size + 1, 0, none⟩ = some v := (by simp [World.cell?, h3]); have H4 := Lib.hid h4; clear h1 h2 h3 h4 h5 h6 hm)
  go_ret
  exact ⟨_, rfl, H4.out.ints, HAL.out.trans (HM.out.only.below (fun k hk => by omega) HAL.out.size)⟩
end Go.Proofs.Ytgkhjnfkpodddaa
