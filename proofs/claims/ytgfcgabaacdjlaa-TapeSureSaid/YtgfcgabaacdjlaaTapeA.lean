/- Stage 11's program: a tape in memory; its small functions. -/
import Derived.Test.YtgfcgabaacdjlaaOwnO
import Derived.Test.YtgfcgabaacdjlaaConcat
namespace Go.Proofs.Ytgfcgabaacdjlaa
open Go.RowKit

/-- a tape: its block p, what is held, what is loose, both in lists of its own; all its blocks are of F -/
structure TapeAt (F : Nat → Prop) (w : World) (p : Nat) (H L : List UInt8) (vh vl : Value) : Prop where
  blk : Blk w p [vh, vl]
  held : OwnO w 1 csB vh H
  loose : OwnO w 1 csB vl L
  fp : F p
  fh : ∀ k, vh.ownBlock = some k → F k ∧ k ≠ p
  fl : ∀ k, vl.ownBlock = some k → F k ∧ k ≠ p
  sep : ∀ k, vh.ownBlock = some k → vl.ownBlock ≠ some k
  lt : ∀ k, F k → k < w.heap.size
theorem TapeAt.kept {F : Nat → Prop} {w w' : World} {p : Nat} {H L : List UInt8} {vh vl : Value} (h : TapeAt F w p H L vh vl) (hb : Below w.heap.size w w') : TapeAt F w' p H L vh vl :=
  ⟨h.blk.kept hb, h.held.kept hb, h.loose.kept hb, h.fp, h.fh, h.fl, h.sep, fun k hk => Nat.lt_of_lt_of_le (h.lt k hk) hb.size⟩
abbrev ptr (p : Nat) : Value := .pointer (some ⟨p, 0, none⟩)

set_option maxHeartbeats 2000000 in
theorem tNew_any (w : World) : Calls Try.prog 7 #[] w fun e w' => ∃ p, e = .returned (ptr p) ∧ w.heap.size ≤ p ∧ TapeAt (fun k => k = p) w' p [] [] (.slice none 0 0) (.slice none 0 0) ∧ Below w.heap.size w w' := by
  go_enter Try.func7, Try.ntmps7
  go_wp2
  go_ret
  exact ⟨_, rfl, Nat.le_refl _, ⟨Blk.new w _ _, OwnO.nil _ _ _, OwnO.nil _ _ _, rfl, fun k h => (by cases h), fun k h => (by cases h), fun k h => (by cases h), fun k h => (by subst h; simp)⟩, (Below.refl _ _).alloc (Nat.le_refl _) _⟩

set_option maxHeartbeats 2000000 in
theorem tSize_any {F : Nat → Prop} {p : Nat} {H L : List UInt8} {vh vl : Value} (w : World) (h : TapeAt F w p H L vh vl) : Calls Try.prog 19 #[ptr p] w fun e w' => e = .returned (.int .i64 (H.length : Int)) ∧ w = w' := by
  have c0 := h.blk.cell 0 rfl
  obtain ⟨a, c, rfl⟩ := h.held.form
  clear h
  go_enter Try.func19, Try.ntmps19
  go_wp2
  go_ret
  exact ⟨rfl, rfl⟩

set_option maxHeartbeats 2000000 in
theorem tSure_any {F : Nat → Prop} {p : Nat} {H L : List UInt8} {vh vl : Value} (w : World) (h : TapeAt F w p H L vh vl) : Calls Try.prog 12 #[ptr p] w fun e w' => e = .returned (.int .i64 (H.length : Int)) ∧ Below w.heap.size w w' := by
  have hs := Lib.hid (tSize_any w h)
  clear h
  go_enter Try.func12, Try.ntmps12
  go_wp2_with (go_at_call 19; (with_reducible refine hs.out.mono ?_); rintro e w1 ⟨rfl, rfl⟩)
  go_ret
  exact ⟨rfl, Below.refl _ _⟩
theorem tSure_nil (w : World) : Calls Try.prog 12 #[.pointer none] w fun e w' => e = .returned (.int .i64 0) ∧ Below w.heap.size w w' := by
  go_enter Try.func12, Try.ntmps12
  go_wp2
  go_ret
  exact ⟨rfl, Below.refl _ _⟩

set_option maxHeartbeats 2000000 in
theorem tLen_any {F : Nat → Prop} {p : Nat} {H L : List UInt8} {vh vl : Value} (w : World) (h : TapeAt F w p H L vh vl) (hn : H.length + L.length ≤ 1000000000) : Calls Try.prog 11 #[ptr p] w fun e w' => e = .returned (.int .i64 ((H.length : Int) + (L.length : Int))) ∧ Below w.heap.size w w' := by
  have hs := Lib.hid (fun n : World => fun h => tSize_any (F := F) (p := p) (H := H) (L := L) (vh := vh) (vl := vl) n h)
  have c1 := h.blk.cell 1 rfl
  have HT := Lib.hid h
  obtain ⟨a, c, e⟩ := h.loose.form
  rw [e] at c1
  clear h
  have h1 : (H.length : Int) + (L.length : Int) ≤ 1000000000 := by omega
  have hw : IntKind.i64.wrap ((H.length : Int) + (L.length : Int)) = (H.length : Int) + (L.length : Int) := IntWalk.i64_in _ ⟨by omega, by omega⟩
  go_enter Try.func11, Try.ntmps11
  go_wp2
  refine wp_region_calm0 (by kernel_rfl) (by kernel_rfl) fun M => ?_
  have e1 := fun n : In M.w => n.cell (M.cell c1)
  have hT := fun n : In M.w => Lib.hid (HT.out.kept (M.h.trans (n.h.mono M.h.size)))
  repeat (go_big_quiet_step ((go_at_call 19; exact In.call_same (hs.out _ (hT _).out))))
  refine wpQuiet_nil ?_
  intro w1 hb
  go_wp2
  go_ret
  exact ⟨rfl, hb⟩
theorem tLen_nil (w : World) : Calls Try.prog 11 #[.pointer none] w fun e w' => e = .returned (.int .i64 0) ∧ Below w.heap.size w w' := by
  go_enter Try.func11, Try.ntmps11
  go_wp2
  go_ret
  exact ⟨rfl, Below.refl _ _⟩
end Go.Proofs.Ytgfcgabaacdjlaa
