/- Stage 17's program: Above; pick. -/
import Derived.Test.YtgkhjnfkpodddaaIsC
import Derived.Deep.AppendLies
import Derived.Deep.DeepCutAuto
namespace Go.Proofs.Ytgkhjnfkpodddaa
open Go.RowKit

/-- three boxes: n, is there one (ok), the least -/
def AbJ (n : Int) (bn bo bl : Nat) (s : Int × Bool) (F : Nat → Prop) (w : World) : Prop := Blk w bn [.int .i64 n] ∧ Blk w bo [.bool s.2] ∧ Blk w bl [.int .i64 s.1] ∧ ∀ k, F k ↔ k = bn ∨ k = bo ∨ k = bl
theorem ab_keep (n : Int) (bn bo bl : Nat) : KeepJ (AbJ n bn bo bl) where
  lt := by
    rintro s F w ⟨h1, h2, h3, h4⟩ k hk
    rcases (h4 k).1 hk with rfl | rfl | rfl
    · exact h1.lt
    · exact h2.lt
    · exact h3.lt
  out := by
    rintro s F w w' ⟨h1, h2, h3, h4⟩ _ he
    exact ⟨h1.same (he _ ((h4 _).2 (.inl rfl))), h2.same (he _ ((h4 _).2 (.inr (.inl rfl)))), h3.same (he _ ((h4 _).2 (.inr (.inr rfl)))), h4⟩

set_option maxHeartbeats 1000000 in
theorem iAbove1_any (n : Int) (bn bo bl : Nat) (s : Int × Bool) (x : Int) (F : Nat → Prop) (w : World) (h : AbJ n bn bo bl s F w) (hd : bn ≠ bo ∧ bn ≠ bl ∧ bo ≠ bl) :
    Calls Try.prog 30 #[.int .i64 x, .pointer (some ⟨bn, 0, none⟩), .pointer (some ⟨bo, 0, none⟩), .pointer (some ⟨bl, 0, none⟩)] w fun e w' => e = .returned (.tuple #[]) ∧ ∃ F', AbJ n bn bo bl (abS n s x) F' w' ∧ Mv F F' w w' := by
  obtain ⟨h1, h2, h3, h4⟩ := h
  obtain ⟨a, b⟩ := s
  have c1 := h1.cell 0 rfl
  have c2 := h2.cell 0 rfl
  have c3 := h3.cell 0 rfl
  simp only at h2 h3 c2 c3
  by_cases hc : n < x ∧ (b = false ∨ x < a)
  · have h3' : Blk (w.setCell ⟨bl, 0, none⟩ (.int .i64 x)) bl [.int .i64 x] := h3.set 0 _
    have h2' := h2.away ⟨bl, 0, none⟩ (.int .i64 x) hd.2.2
    have h1' := h1.away ⟨bl, 0, none⟩ (.int .i64 x) hd.2.1
    have z3 := h3.free 0 rfl
    have z2 := h2'.free 0 rfl
    have d2 := h2'.cell 0 rfl
    have hfin : AbJ n bn bo bl (abS n (a, b) x) F ((w.setCell ⟨bl, 0, none⟩ (.int .i64 x)).setCell ⟨bo, 0, none⟩ (.bool true)) := by
      unfold abS
      rw [if_pos hc]
      exact ⟨h1'.away _ _ hd.1, h2'.set 0 _, h3'.away _ _ (Ne.symm hd.2.2), h4⟩
    have HF := Lib.hid hfin
    have HM := Lib.hid (show Mv F F w ((w.setCell ⟨bl, 0, none⟩ (.int .i64 x)).setCell ⟨bo, 0, none⟩ (.bool true)) from ⟨((Only.refl _ _).set _ _ ((h4 bl).2 (.inr (.inr rfl)))).set _ _ ((h4 bo).2 (.inr (.inl rfl))), fun k hk => .inl hk⟩)
    obtain ⟨hc1, hc2⟩ := hc
    clear h1 h2 h3 h4 h1' h2' h3' hfin hd
    cases b with
    | false =>
      clear hc2
      go_enter Try.func30, Try.ntmps30
      go_wp2
      go_end0
      exact ⟨rfl, F, HF.out, HM.out⟩
    | true =>
      replace hc2 : x < a := hc2.resolve_left (by simp)
      go_enter Try.func30, Try.ntmps30
      go_wp2
      go_end0
      exact ⟨rfl, F, HF.out, HM.out⟩
  · have hfin : AbJ n bn bo bl (abS n (a, b) x) F w := by
      unfold abS
      rw [if_neg hc]
      exact ⟨h1, h2, h3, h4⟩
    have HF := Lib.hid hfin
    clear h1 h2 h3 h4 hfin hd
    by_cases h1 : n < x
    · have hb : b = true := by
        cases b with
        | false => exact absurd ⟨h1, .inl rfl⟩ hc
        | true => rfl
      subst hb
      have h2 : ¬ x < a := fun h => hc ⟨h1, .inr h⟩
      clear hc
      go_enter Try.func30, Try.ntmps30
      go_wp2
      go_end0
      exact ⟨rfl, F, HF.out, Mv.refl _ _⟩
    · clear hc
      go_enter Try.func30, Try.ntmps30
      go_wp2
      go_end0
      exact ⟨rfl, F, HF.out, Mv.refl _ _⟩

set_option maxHeartbeats 1000000 in
theorem iAbove_any (va : Value) (l : List Int) (n : Int) (w : World) (ha : IntsAt w va l) (hl : l.length ≤ 1000000) :
    Calls Try.prog 14 #[va, .int .i64 n] w fun e w' => e = .returned (.tuple #[.int .i64 (abvL l n).1, .bool (abvL l n).2]) ∧ Below w.heap.size w w' := by
  have hmf : ∀ (fn : Fn) (first cap : Array Value) (w : World), (Instr.makeFunc fn first cap).run Try.prog w = .ok (.func fn first cap) w := fun _ _ _ _ => rfl
  have b1 := (Below.refl w.heap.size w).alloc (Nat.le_refl _) (.cells #[.int .i64 n] 3)
  have b2 := (Below.refl (w.alloc (.cells #[.int .i64 n] 3)).heap.size (w.alloc (.cells #[.int .i64 n] 3))).alloc (Nat.le_refl _) (.cells #[.int .i64 0] 3)
  have hX1 := Blk.new w [.int .i64 n] 3
  have hX2 := Blk.new (w.alloc (.cells #[.int .i64 n] 3)) [.int .i64 0] 3
  have hX3 := Blk.new ((w.alloc (.cells #[.int .i64 n] 3)).alloc (.cells #[.int .i64 0] 3)) [.bool false] 4
  have z1 : (w.alloc (.cells #[.int .i64 n] 3)).heap.size = w.heap.size + 1 := by simp
  have z2 : ((w.alloc (.cells #[.int .i64 n] 3)).alloc (.cells #[.int .i64 0] 3)).heap.size = w.heap.size + 1 + 1 := by simp
  have b3 := (Below.refl ((w.alloc (.cells #[.int .i64 n] 3)).alloc (.cells #[.int .i64 0] 3)).heap.size ((w.alloc (.cells #[.int .i64 n] 3)).alloc (.cells #[.int .i64 0] 3))).alloc (Nat.le_refl _) (.cells #[.bool false] 4)
  have hal := (b1.trans (b2.mono b1.size)).trans (b3.mono (by omega))
  replace hX1 := (hX1.kept b2).kept b3
  replace hX2 := hX2.kept b3
  rw [z1] at hX2
  rw [z2] at hX3
  have hE := iEach_any (ab_keep n w.heap.size (w.heap.size + 1 + 1) (w.heap.size + 1)) (abS n) 30 #[.pointer (some ⟨w.heap.size, 0, none⟩), .pointer (some ⟨w.heap.size + 1 + 1, 0, none⟩), .pointer (some ⟨w.heap.size + 1, 0, none⟩)] (fun _ _ => by kernel_rfl) va l _ (ha.below hal) hl (0, false)
    (fun k => k = w.heap.size ∨ k = w.heap.size + 1 + 1 ∨ k = w.heap.size + 1) (fun h0 k hk hf => by have := ha.rows.lt h0 k hk; omega) ⟨hX1, hX3, hX2, fun k => Iff.rfl⟩ (fun _ _ => True) trivial (fun _ _ _ _ => trivial)
    (fun s F w' x k hx _ _ hj ho => iAbove1_any n _ _ _ s x F w' hj (by omega))
  rw [abv_fold] at hE
  obtain ⟨⟨r, t⟩, hr⟩ : ∃ r, abvL l n = r := ⟨_, rfl⟩
  rw [hr] at hE
  rw [hr]
  have HE := Lib.hid hE
  have HAL := Lib.hid hal
  clear b1 b2 b3 hX1 hX2 hX3 z1 z2 hal hE ha hr
  go_enter Try.func14, Try.ntmps14
  go_upto_region 3 with (go_at_call 29; (with_reducible refine HE.out.mono ?_); rintro e w1 ⟨rfl, F', ⟨h1, h2, h3, h4⟩, hm⟩; have HM := Lib.hid hm; have c2 := h2.cell 0 rfl; have c3 := h3.cell 0 rfl; simp only at c2 c3; clear h1 h2 h3 h4 hm)
  have HB : Hid (Below w.heap.size w w1) := Lib.hid (HAL.out.trans (HM.out.only.below (fun k hk => by omega) HAL.out.size))
  refine wp_region_calm0 (by kernel_rfl) (by kernel_rfl) fun M => ?_
  have e0 := fun n : In M.w => n.cell (M.cell c2)
  have e1 := fun n : In M.w => n.cell (M.cell c3)
  repeat (go_big_quiet_step (fail))
  refine wpQuiet_nil ?_
  intro w4 hb4
  have HB4 := Lib.hid (HB.out.trans (hb4.mono HB.out.size))
  clear e0 e1 M hb4 c2 c3
  go_wp2
  exact bodyPost_ret (v := .tuple #[.int .i64 r, .bool t]) (by simp [results, Try.results14, go_sem]) rfl ⟨rfl, HB4.out⟩
end Go.Proofs.Ytgkhjnfkpodddaa
