/- slices.Clone, slices.Sort and slices.Compact at []int: a copy of one's own, in place, each once; nothing else is touched. FOR ALL LATER STAGES. -/
import Derived.Test.YtgkhjnfkpodddaaSorted
import Derived.Test.YtgkhjnfkpodddaaOff
import Derived.Test.YtgkhjnfkpodddaaOneI
import Derived.Test.YtgkhjnfkpodddaaShelf
namespace Go.Proofs.Ytgkhjnfkpodddaa
open Go.RowKit Go.Sort

theorem only_row {blk off n : Nat} {w : World} {d : Array Int} {os : Array Obj} : Only (fun k => k = blk) w (grow (putRow (Value.int .i64) (Sort.ahead w n) blk off d) os) := by
  refine ⟨rfl, rfl, rfl, by simp, fun k hk hne => ?_⟩
  rw [heap_grow_old _ _ (by simp; omega)]
  have : blk ≠ k := fun e => hne e.symm
  simp [putRow, mapBlock, Sort.ahead, Array.getElem?_modify, this]
theorem only_row' {blk off n : Nat} {w : World} {d : Array Int} : Only (fun k => k = blk) w (putRow (Value.int .i64) (Sort.ahead w n) blk off d) := by
  have := only_row (w := w) (n := n) (blk := blk) (off := off) (d := d) (os := #[])
  rwa [grow_empty] at this
/-- sorted, and each once: in place -/
theorem sortI_any (w : World) (B : Nat) (v : Value) (l : List Int) (h : OwnI w B v l) (hl : l.length ≤ 1000000) :
    Calls Try.prog 24 #[v] w fun e w' => e = .returned (.tuple #[]) ∧ IntsAt w' v (l.mergeSort fun x y => decide (x ≤ y)) ∧ Only (fun k => v.ownBlock = some k) w w' ∧
      Calls Try.prog 25 #[v] w' fun e w'' => ∃ u, e = .returned u ∧ IntsAt w'' u (Lib.compact (l.mergeSort fun x y => decide (x ≤ y))) ∧ u.ownBlock = v.ownBlock ∧ Only (fun k => v.ownBlock = some k) w w'' := by
  by_cases h0 : l.length = 0
  · obtain ⟨p, c, rfl⟩ := h.ints.form
    have hnil : l = [] := List.eq_nil_of_length_eq_zero h0
    have hs : (l.mergeSort fun x y => decide (x ≤ y)) = [] := List.eq_nil_of_length_eq_zero (by rw [List.length_mergeSort]; exact h0)
    have hc : Lib.compact (l.mergeSort fun x y => decide (x ≤ y)) = [] := List.eq_nil_of_length_eq_zero (by have h1 := Lib.compact_length_le (l.mergeSort fun x y => decide (x ≤ y)); rw [List.length_mergeSort] at h1; omega)
    have hi := h.ints
    rw [h0, hc, hs]
    rw [hnil] at hi
    refine (Try.slices_Sort_int_none p c w).mono ?_
    rintro e w1 ⟨rfl, rfl⟩
    refine ⟨rfl, hi, Only.refl _ _, (Try.slices_Compact_int_empty p c w1).mono ?_⟩
    rintro e w2 ⟨rfl, rfl⟩
    exact ⟨_, rfl, hi, rfl, Only.refl _ _⟩
  · obtain ⟨g, cap, rfl, hBg, hg, hcap, hH⟩ := h.holds (by omega)
    have hlen : (l.mergeSort fun x y => decide (x ≤ y)).length = l.length := List.length_mergeSort l
    have hgs : ∀ k, k = g → (Value.slice (some ⟨g, 0, none⟩) l.length cap).ownBlock = some k := fun k e => by rw [e]; rfl
    refine (Try.slices_Sort_int g 0 cap l w hH hg (by omega)).mono ?_
    rintro e w1 ⟨rfl, n, os, rfl⟩
    have hS := holds_sorted (n := n) (os := os) hH hg
    have hC := Try.slices_Compact_int g 0 cap (l.mergeSort fun x y => decide (x ≤ y)) _ hS (by omega) (by omega)
    have hI := fun q => ints_compact (n := n) (q := q) (os := os) hH hg hcap
    have hO := only_row (w := w) (n := n) (blk := g) (off := 0) (d := (l.mergeSort fun x y => decide (x ≤ y)).toArray) (os := os)
    refine ⟨rfl, ?_, hO.mono hgs, ?_⟩
    · have := ints_of_holds (zs := l.mergeSort fun x y => decide (x ≤ y)) (cap := cap) hS (Nat.lt_of_lt_of_le hg hO.size) (fun j x hj => by
        have hjl := (List.getElem?_eq_some_iff.1 hj).1
        refine ⟨by simpa using hjl, ?_⟩
        rw [getElem!_pos _ _ (by simpa using hjl)]
        rw [List.getElem?_eq_getElem hjl] at hj
        simpa using Option.some.inj hj) (by omega)
      rwa [hlen] at this
    · rw [hlen] at hC
      refine hC.mono ?_
      rintro e w2 ⟨rfl, q, rfl⟩
      refine ⟨_, rfl, ?_, rfl, (hO.trans only_row').mono hgs⟩
      have := hI q
      rw [hlen] at this
      exact this

set_option maxHeartbeats 1000000 in
/-- a copy of one's own -/
theorem cloneI_any (va : Value) (l : List Int) (w : World) (h : IntsAt w va l) (hn : l.length ≤ 1000000) :
    Calls Try.prog 23 #[va] w fun e w' => ∃ v', e = .returned v' ∧ OwnI w' w.heap.size v' l ∧ Below w.heap.size w w' := by
  obtain ⟨a, c, rfl⟩ := h.form
  cases a with
  | none =>
    have hl : l = [] := by
      obtain ⟨a, cap, e, hc, hx⟩ := h
      cases e
      cases l with
      | nil => rfl
      | cons x t => obtain ⟨g, o, e, _⟩ := hx (by simp); cases e
    subst hl
    have he : (binOp BinOp.eql 22 (.slice none 0 c) (.slice none 0 0)).run Try.prog w = .ok (.bool true) w := by kernel_rfl
    clear h
    go_enter Try.func23, Try.ntmps23
    go_wp2
    go_ret
    exact ⟨_, rfl, OwnR.nil _ _ _ _ _, Below.refl _ _⟩
  | some g =>
    obtain ⟨i0, hi, hz0, hz1, hz2⟩ := info_parts info_int
    have hal := (Below.refl w.heap.size w).alloc (Nat.le_refl _) (.cells #[] 3)
    have HR := Lib.hid (RowsAt.kept h.rows hal)
    have HO := Lib.hid (OwnR.empty w 1 csI 3 w.heap.size rfl)
    have HB := Lib.hid hal
    have he : (binOp BinOp.eql 22 (.slice (some g) l.length c) (.slice none 0 0)).run Try.prog w = .ok (.bool false) w := by kernel_rfl
    clear h hal
    go_enter Try.func23, Try.ntmps23
    go_wp2_with (at_builtin; refine wpList_append_rows csI_len (by decide) csI_one13 rfl _ _ 22 rfl w.heap.size 3 i0 (.int .i64 0) 8 Try.underlying22 hi hz0 hz1 hz2 rfl _ _ rfl HO.out _ l rfl HR.out (by unfold maxLen; simp; omega) (by simp; omega) HB.out.size ?_; intro v2 w2 o2 g2; have HO2 := Lib.hid o2; have HB2 := Lib.hid (OwnR.below HO.out HB.out HB.out.size g2); clear o2 g2)
    go_ret
    exact ⟨_, rfl, HO2.out, HB2.out⟩
end Go.Proofs.Ytgkhjnfkpodddaa
