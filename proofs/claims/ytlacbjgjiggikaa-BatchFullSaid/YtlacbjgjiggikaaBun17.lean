/- Texts of this proof, joined: BtG; OpenPt; OpenAis; OpenBss; OpenTk; OpenTask; BtH. -/
import Derived.Test.YtlacbjgjiggikaaBun16
import Derived.Deep.DeepCutAuto
import Derived.Test.YtlacbjgjiggikaaRows
import Derived.Lib.SmallJoins
import Derived.ChangeArms
import Derived.Deep.Strs
import Derived.OpenShut
/- Stage 23: what must come at any rate. -/
namespace Go.Proofs.Ytlacbjgjiggikaa
open Go.RowKit

structure Al23 (W : World) (n : Nat) : Prop where
  o : Blk W (n + 1) [.int .i64 1, .int .i64 0, .int .u64 0, .int .u64 0, .int .i64 0, .int .i64 0, .int .i64 0, .int .i64 0, .slice none 0 0]
  t : Blk W (n + 1 + 1) [.int .i64 2, .int .i64 0, .int .u64 0, .int .u64 0, .int .i64 0, .int .i64 0, .int .i64 0, .int .i64 0, .slice (some ⟨n, 0, none⟩) 1 1]
  r : Blk W (n + 1 + 1 + 1 + 1) [.int .i64 1, .int .i64 0, .int .u64 0, .int .u64 0, .int .i64 0, .int .i64 0, .int .i64 0, .int .i64 0, .slice (some ⟨n + 1 + 1 + 1, 0, none⟩) 1 1]
  i1 : IntsAt W (.slice (some ⟨n, 0, none⟩) 1 1) [1]
  i2 : IntsAt W (.slice (some ⟨n + 1 + 1 + 1, 0, none⟩) 1 1) [2]
theorem Al23.kept {W W' : World} {n : Nat} (h : Al23 W n) (hb : Below W.heap.size W W') : Al23 W' n := ⟨h.o.kept hb, h.t.kept hb, h.r.kept hb, h.i1.below hb, h.i2.below hb⟩
theorem al23 (w : World) : Al23 (((((w.alloc (.cells #[.int .i64 1] 3)).alloc (.cells #[.int .i64 1, .int .i64 0, .int .u64 0, .int .u64 0, .int .i64 0, .int .i64 0, .int .i64 0, .int .i64 0, .slice none 0 0] 37)).alloc (.cells #[.int .i64 2, .int .i64 0, .int .u64 0, .int .u64 0, .int .i64 0, .int .i64 0, .int .i64 0, .int .i64 0, .slice (some ⟨w.heap.size, 0, none⟩) 1 1] 37)).alloc (.cells #[.int .i64 2] 3)).alloc (.cells #[.int .i64 1, .int .i64 0, .int .u64 0, .int .u64 0, .int .i64 0, .int .i64 0, .int .i64 0, .int .i64 0, .slice (some ⟨w.heap.size + 1 + 1 + 1, 0, none⟩) 1 1] 37)) w.heap.size ∧ Below w.heap.size w (((((w.alloc (.cells #[.int .i64 1] 3)).alloc (.cells #[.int .i64 1, .int .i64 0, .int .u64 0, .int .u64 0, .int .i64 0, .int .i64 0, .int .i64 0, .int .i64 0, .slice none 0 0] 37)).alloc (.cells #[.int .i64 2, .int .i64 0, .int .u64 0, .int .u64 0, .int .i64 0, .int .i64 0, .int .i64 0, .int .i64 0, .slice (some ⟨w.heap.size, 0, none⟩) 1 1] 37)).alloc (.cells #[.int .i64 2] 3)).alloc (.cells #[.int .i64 1, .int .i64 0, .int .u64 0, .int .u64 0, .int .i64 0, .int .i64 0, .int .i64 0, .int .i64 0, .slice (some ⟨w.heap.size + 1 + 1 + 1, 0, none⟩) 1 1] 37)) := by
  have b1 := (Below.refl w.heap.size w).alloc (Nat.le_refl _) (.cells #[.int .i64 1] 3)
  have f1 := IntsAt.lit w [1] 3
  change IntsAt (w.alloc (.cells #[.int .i64 1] 3)) _ _ at f1
  have s1 : (w.alloc (.cells #[.int .i64 1] 3)).heap.size = w.heap.size + 1 := by simp
  generalize w.alloc (.cells #[.int .i64 1] 3) = W1 at *
  generalize w.heap.size = n at *
  have b2 := (Below.refl W1.heap.size W1).alloc (Nat.le_refl _) (.cells #[.int .i64 1, .int .i64 0, .int .u64 0, .int .u64 0, .int .i64 0, .int .i64 0, .int .i64 0, .int .i64 0, .slice none 0 0] 37)
  have f2 := Blk.new W1 [.int .i64 1, .int .i64 0, .int .u64 0, .int .u64 0, .int .i64 0, .int .i64 0, .int .i64 0, .int .i64 0, .slice none 0 0] 37
  have s2 : (W1.alloc (.cells #[.int .i64 1, .int .i64 0, .int .u64 0, .int .u64 0, .int .i64 0, .int .i64 0, .int .i64 0, .int .i64 0, .slice none 0 0] 37)).heap.size = n + 1 + 1 := by simp [s1]
  rw [s1] at f2
  generalize W1.alloc (.cells #[.int .i64 1, .int .i64 0, .int .u64 0, .int .u64 0, .int .i64 0, .int .i64 0, .int .i64 0, .int .i64 0, .slice none 0 0] 37) = W2 at *
  have b3 := (Below.refl W2.heap.size W2).alloc (Nat.le_refl _) (.cells #[.int .i64 2, .int .i64 0, .int .u64 0, .int .u64 0, .int .i64 0, .int .i64 0, .int .i64 0, .int .i64 0, .slice (some ⟨n, 0, none⟩) 1 1] 37)
  have f3 := Blk.new W2 [.int .i64 2, .int .i64 0, .int .u64 0, .int .u64 0, .int .i64 0, .int .i64 0, .int .i64 0, .int .i64 0, .slice (some ⟨n, 0, none⟩) 1 1] 37
  have s3 : (W2.alloc (.cells #[.int .i64 2, .int .i64 0, .int .u64 0, .int .u64 0, .int .i64 0, .int .i64 0, .int .i64 0, .int .i64 0, .slice (some ⟨n, 0, none⟩) 1 1] 37)).heap.size = n + 1 + 1 + 1 := by simp [s2]
  rw [s2] at f3
  generalize W2.alloc (.cells #[.int .i64 2, .int .i64 0, .int .u64 0, .int .u64 0, .int .i64 0, .int .i64 0, .int .i64 0, .int .i64 0, .slice (some ⟨n, 0, none⟩) 1 1] 37) = W3 at *
  have b4 := (Below.refl W3.heap.size W3).alloc (Nat.le_refl _) (.cells #[.int .i64 2] 3)
  have f4 := IntsAt.lit W3 [2] 3
  change IntsAt (W3.alloc (.cells #[.int .i64 2] 3)) _ _ at f4
  have s4 : (W3.alloc (.cells #[.int .i64 2] 3)).heap.size = n + 1 + 1 + 1 + 1 := by simp [s3]
  rw [s3] at f4
  generalize W3.alloc (.cells #[.int .i64 2] 3) = W4 at *
  have b5 := (Below.refl W4.heap.size W4).alloc (Nat.le_refl _) (.cells #[.int .i64 1, .int .i64 0, .int .u64 0, .int .u64 0, .int .i64 0, .int .i64 0, .int .i64 0, .int .i64 0, .slice (some ⟨n + 1 + 1 + 1, 0, none⟩) 1 1] 37)
  have f5 := Blk.new W4 [.int .i64 1, .int .i64 0, .int .u64 0, .int .u64 0, .int .i64 0, .int .i64 0, .int .i64 0, .int .i64 0, .slice (some ⟨n + 1 + 1 + 1, 0, none⟩) 1 1] 37
  rw [s4] at f5
  have c4 := b4.trans (b5.mono b4.size)
  have c3 := b3.trans (c4.mono b3.size)
  have c2 := b2.trans (c3.mono b2.size)
  have hs : n ≤ W1.heap.size := by omega
  exact ⟨⟨f2.kept c3, f3.kept c4, f5, f1.below c2, f4.below b5⟩, b1.trans (c2.mono hs)⟩

/-- the three specs -/
abbrev s1 : Sp := ⟨1, 0, 0, 0, 0, 0, 0, 0, none, 0, []⟩
abbrev s2 (n : Nat) : Sp := ⟨2, 0, 0, 0, 0, 0, 0, 0, some ⟨n, 0, none⟩, 1, [1]⟩
abbrev s3 (n : Nat) : Sp := ⟨1, 0, 0, 0, 0, 0, 0, 0, some ⟨n + 1 + 1 + 1, 0, none⟩, 1, [2]⟩
theorem chk_s1 : chk s1 = 0 := chk_zero (by rfl) (by rfl)
theorem chk_s2 (n : Nat) : chk (s2 n) = 0 := chk_zero (by rfl) (by rfl)
theorem chk_s3 (n : Nat) : chk (s3 n) = 0 := chk_zero (by rfl) (by rfl)
theorem first_two {x y : Sp} (hx : chk x = 0) (hy : chk y = 0) : firstE [x, y] = 0 := firstE_zero.2 fun z hz => by
  rcases List.mem_cons.1 hz with rfl | hz
  · exact hx
  · rw [List.mem_singleton.1 hz]; exact hy
theorem whole12 (n : Nat) : wholeB [s1, s2 n] = true := (by decide +kernel : decide ((ordL [1, 2] [⟨1, 2⟩]).length = (setL [1, 2]).length) = true)
theorem whole21 (n : Nat) : wholeB [s2 n, s1] = true := (by decide +kernel : decide ((ordL [2, 1] [⟨1, 2⟩]).length = (setL [2, 1]).length) = true)
theorem whole32 (n : Nat) : wholeB [s3 n, s2 n] = false := (by decide +kernel : decide ((ordL [1, 2] [⟨2, 1⟩, ⟨1, 2⟩]).length = (setL [1, 2]).length) = false)
theorem order21 (n : Nat) : ordL (idsO [s2 n, s1]) (arcsO [s2 n, s1]) = [1, 2] := (by decide +kernel : ordL [2, 1] [⟨1, 2⟩] = [1, 2])
theorem free21 (n : Nat) : freeO [] [s2 n, s1] = [1] := rfl
theorem bchk_ok (n : Nat) : bchk 2 [] [s1, s2 n] = 0 := by
  unfold bchk
  rw [first_two chk_s1 (chk_s2 n), whole12]
  rfl
theorem bchk_full (n : Nat) : bchk 1 [] [s1, s2 n] = 9 := by
  unfold bchk
  rw [first_two chk_s1 (chk_s2 n)]
  rfl
theorem bchk_ring (n : Nat) : bchk 2 [] [s3 n, s2 n] = 8 := by
  unfold bchk
  rw [first_two (chk_s3 n) (chk_s2 n), whole32]
  rfl
theorem lit2 (W : World) (x y : Sp) (hx : IntsAt W x.v x.aft) (hy : IntsAt W y.v y.aft) : SpsAt (W.alloc (.cells (flats csSp [x, y]).toArray 37)) (.slice (some ⟨W.heap.size, 0, none⟩) 2 2) [x, y] ∧ Below W.heap.size W (W.alloc (.cells (flats csSp [x, y]).toArray 37)) := by
  have hb := (Below.refl W.heap.size W).alloc (Nat.le_refl _) (.cells (flats csSp [x, y]).toArray 37)
  refine ⟨⟨rowsLit csSp_len W [x, y] 37 2 rfl, fun z hz => ?_⟩, hb⟩
  rcases List.mem_cons.1 hz with rfl | hz
  · exact hx.below hb
  · rw [List.mem_singleton.1 hz]; exact hy.below hb
theorem sp64_two {x y : Sp} (h : (I64 x.id ∧ ∀ n ∈ x.aft, I64 n) ∧ (I64 y.id ∧ ∀ n ∈ y.aft, I64 n)) : Sp64 [x, y] := fun z hz => by
  rcases List.mem_cons.1 hz with rfl | hz
  · exact h.1
  · rw [List.mem_singleton.1 hz]; exact h.2
theorem i64_one {n : Int} (h : I64 n) : ∀ x ∈ [n], I64 x := fun x hx => by rw [List.mem_singleton.1 hx]; exact h
theorem i64_1 : I64 1 := by unfold I64; omega
theorem i64_2 : I64 2 := by unfold I64; omega
theorem s64_1 : I64 s1.id ∧ ∀ n ∈ s1.aft, I64 n := ⟨i64_1, fun _ h => (by cases h)⟩
theorem s64_2 (n : Nat) : I64 (s2 n).id ∧ ∀ m ∈ (s2 n).aft, I64 m := ⟨i64_2, i64_one i64_1⟩
theorem s64_3 (n : Nat) : I64 (s3 n).id ∧ ∀ m ∈ (s3 n).aft, I64 m := ⟨i64_1, i64_one i64_2⟩
theorem aft_two {x y : Sp} {m : Nat} (hx : x.aft.length ≤ m) (hy : y.aft.length ≤ m) : ∀ z ∈ [x, y], z.aft.length ≤ m := fun z hz => by
  rcases List.mem_cons.1 hz with rfl | hz
  · exact hx
  · rw [List.mem_singleton.1 hz]; exact hy

set_option maxHeartbeats 8000000 in
set_option maxRecDepth 100000 in
theorem bAlive_any (w : World) : Calls Try.prog 8 #[] w fun e w' => e = .returned (.bool true) ∧ Below w.heap.size w w' := by
  obtain ⟨hA, hB⟩ := al23 w
  have HB := Lib.hid hB
  have HA := Lib.hid hA
  clear hA hB
  have n1 := fun W : World => IntsAt.nil W
  have H1 := Lib.hid (show ∀ W : World, Al23 W w.heap.size → Calls Try.prog 9 #[.slice (some ⟨W.heap.size, 0, none⟩) 2 2] (W.alloc (.cells #[.int .i64 2, .int .i64 0, .int .u64 0, .int .u64 0, .int .i64 0, .int .i64 0, .int .i64 0, .int .i64 0, .slice (some ⟨w.heap.size, 0, none⟩) 1 1, .int .i64 1, .int .i64 0, .int .u64 0, .int .u64 0, .int .i64 0, .int .i64 0, .int .i64 0, .int .i64 0, .slice none 0 0] 37)) fun e w' => (∃ v, e = .returned (.tuple #[v, .bool true]) ∧ IntsAt w' v [1, 2]) ∧ Below W.heap.size W w' from fun W h => by
    have g := lit2 W (s2 w.heap.size) s1 h.i1 (IntsAt.nil W)
    have q := bOrder_any _ [(s2 w.heap.size), s1] _ g.1 (by simp) (by simp [arcsO]) (sp64_two ⟨s64_2 _, s64_1⟩)
    rw [whole21, order21] at q
    exact q.mono fun e w' ⟨v, h1, h2, h3⟩ => ⟨⟨v, h1, h2⟩, g.2.trans (h3.mono g.2.size)⟩)
  have H2 := Lib.hid (show ∀ W : World, Al23 W w.heap.size → Calls Try.prog 7 #[.int .i64 2, .slice none 0 0, .slice (some ⟨W.heap.size, 0, none⟩) 2 2] (W.alloc (.cells #[.int .i64 1, .int .i64 0, .int .u64 0, .int .u64 0, .int .i64 0, .int .i64 0, .int .i64 0, .int .i64 0, .slice none 0 0, .int .i64 2, .int .i64 0, .int .u64 0, .int .u64 0, .int .i64 0, .int .i64 0, .int .i64 0, .int .i64 0, .slice (some ⟨w.heap.size, 0, none⟩) 1 1] 37)) fun e w' => e = .returned (.int .i64 0) ∧ Below W.heap.size W w' from fun W h => by
    have g := lit2 W s1 (s2 w.heap.size) (IntsAt.nil W) h.i1
    have q := bCheck_any 2 (.slice none 0 0) _ [] [s1, (s2 w.heap.size)] _ (RowsAt.nil _ _ _) g.1 (by simp) (by simp) (fun _ h => (by cases h)) (sp64_two ⟨s64_1, s64_2 _⟩) (aft_two (by simp) (by simp))
    rw [bchk_ok] at q
    exact q.mono fun e w' ⟨h1, h3⟩ => ⟨h1, g.2.trans (h3.mono g.2.size)⟩)
  have H3 := Lib.hid (show ∀ W : World, Al23 W w.heap.size → Calls Try.prog 7 #[.int .i64 1, .slice none 0 0, .slice (some ⟨W.heap.size, 0, none⟩) 2 2] (W.alloc (.cells #[.int .i64 1, .int .i64 0, .int .u64 0, .int .u64 0, .int .i64 0, .int .i64 0, .int .i64 0, .int .i64 0, .slice none 0 0, .int .i64 2, .int .i64 0, .int .u64 0, .int .u64 0, .int .i64 0, .int .i64 0, .int .i64 0, .int .i64 0, .slice (some ⟨w.heap.size, 0, none⟩) 1 1] 37)) fun e w' => e = .returned (.int .i64 9) ∧ Below W.heap.size W w' from fun W h => by
    have g := lit2 W s1 (s2 w.heap.size) (IntsAt.nil W) h.i1
    have q := bCheck_any 1 (.slice none 0 0) _ [] [s1, (s2 w.heap.size)] _ (RowsAt.nil _ _ _) g.1 (by simp) (by simp) (fun _ h => (by cases h)) (sp64_two ⟨s64_1, s64_2 _⟩) (aft_two (by simp) (by simp))
    rw [bchk_full] at q
    exact q.mono fun e w' ⟨h1, h3⟩ => ⟨h1, g.2.trans (h3.mono g.2.size)⟩)
  have H4 := Lib.hid (show ∀ W : World, Al23 W w.heap.size → Calls Try.prog 7 #[.int .i64 2, .slice none 0 0, .slice (some ⟨W.heap.size, 0, none⟩) 2 2] (W.alloc (.cells #[.int .i64 1, .int .i64 0, .int .u64 0, .int .u64 0, .int .i64 0, .int .i64 0, .int .i64 0, .int .i64 0, .slice (some ⟨w.heap.size + 1 + 1 + 1, 0, none⟩) 1 1, .int .i64 2, .int .i64 0, .int .u64 0, .int .u64 0, .int .i64 0, .int .i64 0, .int .i64 0, .int .i64 0, .slice (some ⟨w.heap.size, 0, none⟩) 1 1] 37)) fun e w' => e = .returned (.int .i64 8) ∧ Below W.heap.size W w' from fun W h => by
    have g := lit2 W (s3 w.heap.size) (s2 w.heap.size) h.i2 h.i1
    have q := bCheck_any 2 (.slice none 0 0) _ [] [(s3 w.heap.size), (s2 w.heap.size)] _ (RowsAt.nil _ _ _) g.1 (by simp) (by simp) (fun _ h => (by cases h)) (sp64_two ⟨s64_3 _, s64_2 _⟩) (aft_two (by simp) (by simp))
    rw [bchk_ring] at q
    exact q.mono fun e w' ⟨h1, h3⟩ => ⟨h1, g.2.trans (h3.mono g.2.size)⟩)
  have H5 := Lib.hid (show ∀ W : World, Al23 W w.heap.size → Calls Try.prog 18 #[.slice none 0 0, .slice (some ⟨W.heap.size, 0, none⟩) 2 2] (W.alloc (.cells #[.int .i64 2, .int .i64 0, .int .u64 0, .int .u64 0, .int .i64 0, .int .i64 0, .int .i64 0, .int .i64 0, .slice (some ⟨w.heap.size, 0, none⟩) 1 1, .int .i64 1, .int .i64 0, .int .u64 0, .int .u64 0, .int .i64 0, .int .i64 0, .int .i64 0, .int .i64 0, .slice none 0 0] 37)) fun e w' => (∃ v, e = .returned v ∧ IntsAt w' v [1]) ∧ Below W.heap.size W w' from fun W h => by
    have g := lit2 W (s2 w.heap.size) s1 h.i1 (IntsAt.nil W)
    have q := bFree_any (.slice none 0 0) _ [] [(s2 w.heap.size), s1] _ (RowsAt.nil _ _ _) g.1 (by simp) (by simp) (fun _ h => (by cases h)) (sp64_two ⟨s64_2 _, s64_1⟩) (aft_two (by simp) (by simp))
    rw [free21] at q
    exact q.mono fun e w' ⟨v, h1, h2, h3⟩ => ⟨⟨v, h1, h2⟩, g.2.trans (h3.mono g.2.size)⟩)
  have H6 := Lib.hid (show ∀ (W : World) (v : Value), IntsAt W v [1, 2] → Calls Try.prog 10 #[v, .slice (some ⟨W.heap.size, 0, none⟩) 2 2] (W.alloc (.cells #[.int .i64 1, .int .i64 2] 3)) fun e w' => e = .returned (.bool true) ∧ Below W.heap.size W w' from fun W v h => by
    have hb := (Below.refl W.heap.size W).alloc (Nat.le_refl _) (.cells #[.int .i64 1, .int .i64 2] 3)
    have q := refInts_any v _ [1, 2] [1, 2] _ (h.below hb) (IntsAt.lit W [1, 2] 3) (by simp) (by simp)
    rw [decide_eq_true rfl] at q
    exact q.mono fun e w' ⟨h1, h3⟩ => ⟨h1, hb.trans (h3.mono hb.size)⟩)
  have H7 := Lib.hid (show ∀ (W : World) (v : Value), IntsAt W v [1] → Calls Try.prog 10 #[v, .slice (some ⟨W.heap.size, 0, none⟩) 1 1] (W.alloc (.cells #[.int .i64 1] 3)) fun e w' => e = .returned (.bool true) ∧ Below W.heap.size W w' from fun W v h => by
    have hb := (Below.refl W.heap.size W).alloc (Nat.le_refl _) (.cells #[.int .i64 1] 3)
    have q := refInts_any v _ [1] [1] _ (h.below hb) (IntsAt.lit W [1] 3) (by simp) (by simp)
    rw [decide_eq_true rfl] at q
    exact q.mono fun e w' ⟨h1, h3⟩ => ⟨h1, hb.trans (h3.mono hb.size)⟩)
  clear n1
  go_enter Try.func8, Try.ntmps8
  go_upto_region 3 with (fail)
  generalize ((((w.alloc (.cells #[.int .i64 1] 3)).alloc (.cells #[.int .i64 1, .int .i64 0, .int .u64 0, .int .u64 0, .int .i64 0, .int .i64 0, .int .i64 0, .int .i64 0, .slice none 0 0] 37)).alloc (.cells #[.int .i64 2, .int .i64 0, .int .u64 0, .int .u64 0, .int .i64 0, .int .i64 0, .int .i64 0, .int .i64 0, .slice (some ⟨w.heap.size, 0, none⟩) 1 1] 37)).alloc (.cells #[.int .i64 2] 3)).alloc (.cells #[.int .i64 1, .int .i64 0, .int .u64 0, .int .u64 0, .int .i64 0, .int .i64 0, .int .i64 0, .int .i64 0, .slice (some ⟨w.heap.size + 1 + 1 + 1, 0, none⟩) 1 1] 37) = W6 at *
  have x0 := HA.out.o.cell 0 rfl
  have x1 := HA.out.o.cell 1 rfl
  have x2 := HA.out.o.cell 2 rfl
  have x3 := HA.out.o.cell 3 rfl
  have x4 := HA.out.o.cell 4 rfl
  have x5 := HA.out.o.cell 5 rfl
  have x6 := HA.out.o.cell 6 rfl
  have x7 := HA.out.o.cell 7 rfl
  have x8 := HA.out.o.cell 8 rfl
  have y0 := HA.out.t.cell 0 rfl
  have y1 := HA.out.t.cell 1 rfl
  have y2 := HA.out.t.cell 2 rfl
  have y3 := HA.out.t.cell 3 rfl
  have y4 := HA.out.t.cell 4 rfl
  have y5 := HA.out.t.cell 5 rfl
  have y6 := HA.out.t.cell 6 rfl
  have y7 := HA.out.t.cell 7 rfl
  have y8 := HA.out.t.cell 8 rfl
  go_wp2_with (first
    | (go_at_call 9; (with_reducible refine (H1.out _ HA.out).mono ?_); rintro e w1 ⟨⟨v1, rfl, hv⟩, hb⟩; obtain ⟨a1, c1, e1⟩ := hv.form; subst e1; have HV := Lib.hid (show IntsAt w1 (.slice a1 2 c1) [1, 2] from hv); replace HB := Lib.hid (HB.out.trans (hb.mono HB.out.size)); replace HA := Lib.hid (HA.out.kept hb); clear hb hv x0 x1 x2 x3 x4 x5 x6 x7 x8 y0 y1 y2 y3 y4 y5 y6 y7 y8; have x0 := HA.out.o.cell 0 rfl; have x1 := HA.out.o.cell 1 rfl; have x2 := HA.out.o.cell 2 rfl; have x3 := HA.out.o.cell 3 rfl; have x4 := HA.out.o.cell 4 rfl; have x5 := HA.out.o.cell 5 rfl; have x6 := HA.out.o.cell 6 rfl; have x7 := HA.out.o.cell 7 rfl; have x8 := HA.out.o.cell 8 rfl; have y0 := HA.out.t.cell 0 rfl; have y1 := HA.out.t.cell 1 rfl; have y2 := HA.out.t.cell 2 rfl; have y3 := HA.out.t.cell 3 rfl; have y4 := HA.out.t.cell 4 rfl; have y5 := HA.out.t.cell 5 rfl; have y6 := HA.out.t.cell 6 rfl; have y7 := HA.out.t.cell 7 rfl; have y8 := HA.out.t.cell 8 rfl)
    | (go_at_call 7; (with_reducible refine (H2.out _ HA.out).mono ?_); rintro e w2 ⟨rfl, hb⟩; replace HV := Lib.hid (HV.out.below hb); replace HB := Lib.hid (HB.out.trans (hb.mono HB.out.size)); replace HA := Lib.hid (HA.out.kept hb); clear hb x0 x1 x2 x3 x4 x5 x6 x7 x8 y0 y1 y2 y3 y4 y5 y6 y7 y8; have x0 := HA.out.o.cell 0 rfl; have x1 := HA.out.o.cell 1 rfl; have x2 := HA.out.o.cell 2 rfl; have x3 := HA.out.o.cell 3 rfl; have x4 := HA.out.o.cell 4 rfl; have x5 := HA.out.o.cell 5 rfl; have x6 := HA.out.o.cell 6 rfl; have x7 := HA.out.o.cell 7 rfl; have x8 := HA.out.o.cell 8 rfl; have y0 := HA.out.t.cell 0 rfl; have y1 := HA.out.t.cell 1 rfl; have y2 := HA.out.t.cell 2 rfl; have y3 := HA.out.t.cell 3 rfl; have y4 := HA.out.t.cell 4 rfl; have y5 := HA.out.t.cell 5 rfl; have y6 := HA.out.t.cell 6 rfl; have y7 := HA.out.t.cell 7 rfl; have y8 := HA.out.t.cell 8 rfl)
    | (go_at_call 7; (with_reducible refine (H3.out _ HA.out).mono ?_); rintro e w3 ⟨rfl, hb⟩; replace HV := Lib.hid (HV.out.below hb); replace HB := Lib.hid (HB.out.trans (hb.mono HB.out.size)); replace HA := Lib.hid (HA.out.kept hb); clear hb x0 x1 x2 x3 x4 x5 x6 x7 x8 y0 y1 y2 y3 y4 y5 y6 y7 y8; have z0 := HA.out.r.cell 0 rfl; have z1 := HA.out.r.cell 1 rfl; have z2 := HA.out.r.cell 2 rfl; have z3 := HA.out.r.cell 3 rfl; have z4 := HA.out.r.cell 4 rfl; have z5 := HA.out.r.cell 5 rfl; have z6 := HA.out.r.cell 6 rfl; have z7 := HA.out.r.cell 7 rfl; have z8 := HA.out.r.cell 8 rfl; have y0 := HA.out.t.cell 0 rfl; have y1 := HA.out.t.cell 1 rfl; have y2 := HA.out.t.cell 2 rfl; have y3 := HA.out.t.cell 3 rfl; have y4 := HA.out.t.cell 4 rfl; have y5 := HA.out.t.cell 5 rfl; have y6 := HA.out.t.cell 6 rfl; have y7 := HA.out.t.cell 7 rfl; have y8 := HA.out.t.cell 8 rfl)
    | (go_at_call 7; (with_reducible refine (H4.out _ HA.out).mono ?_); rintro e w4 ⟨rfl, hb⟩; replace HV := Lib.hid (HV.out.below hb); replace HB := Lib.hid (HB.out.trans (hb.mono HB.out.size)); replace HA := Lib.hid (HA.out.kept hb); clear hb z0 z1 z2 z3 z4 z5 z6 z7 z8 y0 y1 y2 y3 y4 y5 y6 y7 y8)
    | (go_at_call 10; (with_reducible refine (H6.out _ _ HV.out).mono ?_); rintro e w5 ⟨rfl, hb⟩; replace HB := Lib.hid (HB.out.trans (hb.mono HB.out.size)); replace HA := Lib.hid (HA.out.kept hb); clear hb HV; have x0 := HA.out.o.cell 0 rfl; have x1 := HA.out.o.cell 1 rfl; have x2 := HA.out.o.cell 2 rfl; have x3 := HA.out.o.cell 3 rfl; have x4 := HA.out.o.cell 4 rfl; have x5 := HA.out.o.cell 5 rfl; have x6 := HA.out.o.cell 6 rfl; have x7 := HA.out.o.cell 7 rfl; have x8 := HA.out.o.cell 8 rfl; have y0 := HA.out.t.cell 0 rfl; have y1 := HA.out.t.cell 1 rfl; have y2 := HA.out.t.cell 2 rfl; have y3 := HA.out.t.cell 3 rfl; have y4 := HA.out.t.cell 4 rfl; have y5 := HA.out.t.cell 5 rfl; have y6 := HA.out.t.cell 6 rfl; have y7 := HA.out.t.cell 7 rfl; have y8 := HA.out.t.cell 8 rfl)
    | (go_at_call 18; (with_reducible refine (H5.out _ HA.out).mono ?_); rintro e w6 ⟨⟨v6, rfl, hv⟩, hb⟩; obtain ⟨a6, c6, e6⟩ := hv.form; subst e6; have HF := Lib.hid (show IntsAt w6 (.slice a6 1 c6) [1] from hv); replace HB := Lib.hid (HB.out.trans (hb.mono HB.out.size)); replace HA := Lib.hid (HA.out.kept hb); clear hb hv x0 x1 x2 x3 x4 x5 x6 x7 x8 y0 y1 y2 y3 y4 y5 y6 y7 y8)
    | (go_at_call 10; (with_reducible refine (H7.out _ _ HF.out).mono ?_); rintro e w7 ⟨rfl, hb⟩; replace HB := Lib.hid (HB.out.trans (hb.mono HB.out.size)); clear hb))
  go_ret
  exact ⟨rfl, HB.out⟩
end Go.Proofs.Ytlacbjgjiggikaa
/- A point that comes in, opened. -/
namespace Go.Proofs.Ytlacbjgjiggikaa
open Go.RowKit Go.ChangeShapes Go.WideShapes Go.Joins

theorem cells_point : Try.prog.cellsOf 35 = 2 := by kernel_rfl
def In64 (n : Int) : Prop := -9223372036854775808 ≤ n ∧ n ≤ 9223372036854775807
theorem in64_of_wf {n : Int} (h : (Lit.int .i64 n).wf = true) : In64 n := by
  simp [Lit.wf] at h
  exact h
set_option maxRecDepth 100000 in
theorem open_point {H : Type} {enc : TypeId × Value → H} {w : World} {base : Nat} {v : Value} {d : DataW H} {p : List MemPlace} (hok : Value.okWide Try.prog w .any base 35 v) (h : DataW.Trod enc Try.prog w 0 (fun _ => true) true 35 v d p) :
    ∃ x y : Int, v = .agg #[.int .i64 x, .int .i64 y] ∧ In64 x ∧ In64 y := by
  obtain ⟨c0, c1, y0, y1, m, rfl, _, _, hy0, hy1⟩ := open_agg2 Try.underlying35 (by kernel_rfl) cells_point hok h
  obtain ⟨a, e0, _, wa⟩ := DataW.trod_int Try.underlying3 hy0
  obtain ⟨b, e1, _, wb⟩ := DataW.trod_int Try.underlying3 hy1
  simp at e0 e1
  subst e0 e1
  exact ⟨a, b, rfl, in64_of_wf wa, in64_of_wf wb⟩

theorem cells_int_pt : Try.prog.cellsOf 3 = 1 := by kernel_rfl
end Go.Proofs.Ytlacbjgjiggikaa
/- Aisles that come in, opened. -/
namespace Go.Proofs.Ytlacbjgjiggikaa
open Go.RowKit Go.ChangeShapes Go.WideShapes Go.Joins Go.Deep

theorem list5 {α : Type} {l : List α} (h : l.length = 5) : ∃ a b c d e, l = [a, b, c, d, e] := by
  match l, h with
  | [a, b, c, d, e], _ => exact ⟨a, b, c, d, e, rfl⟩
def Ais.In (a : Ais) : Prop := In64 a.id ∧ (In64 a.lx ∧ In64 a.ly) ∧ In64 a.hx ∧ In64 a.hy
end Go.Proofs.Ytlacbjgjiggikaa
/- Lists of lists of bytes that come in. -/
namespace Go.Proofs.Ytlacbjgjiggikaa
open Go.RowKit Go.ChangeShapes Go.WideShapes Go.Joins Go.Deep

set_option maxRecDepth 100000 in
/-- a slice that lies in a cell -/
theorem open_rows_good {α : Type} [Inhabited α] {H : Type} {enc : TypeId × Value → H} {w : World} {t e : TypeId} {K n0 : Nat} {xs0 : List Value} {z : DataW H × List MemPlace} (cs : α → List Value) (good : α → Prop)
    (ht : Try.prog.underlying t = some (.slice e)) (ce : Try.prog.cellsOf e = K) (hK : 0 < K)
    (elem : ∀ n xs x, xs.length = K → DataW.trod enc Try.prog w 0 (fun _ => true) true n e xs = some x → ∃ y, xs = cs y ∧ good y)
    (hx0 : DataW.trod enc Try.prog w 0 (fun _ => true) true n0 t xs0 = some z) :
    ∃ a len cap l, xs0 = [.slice a len cap] ∧ RowsAt w K cs (.slice a len cap) l ∧ l.length ≤ 9223372036854775807 ∧ ∀ x ∈ l, good x := by
  obtain ⟨d, p⟩ := z
  rcases open_slice ht hx0 with ⟨hcs, _⟩ | ⟨x, ln, c, m, n, D, Pl, hcs, _, hl, hm, hmm, _, hx⟩
  · exact ⟨none, 0, 0, [], hcs, RowsAt.nil _ _ _, by simp, by simp⟩
  · have hmc : m = c := by simpa using hmm
    subst hmc
    rw [ce] at hx
    have each : ∀ i, i < m → ∃ y : α, (∀ j u, (cs y)[j]? = some u → w.cell? ((x.add (i * K)).add j) = some u) ∧ good y ∧ (cs y).length = K := by
      intro i hi
      obtain ⟨xs, h1, h2⟩ := hx i hi
      obtain ⟨_, hlen, hcell⟩ := World.cells?_some h1
      obtain ⟨y, rfl, hg⟩ := elem n xs _ hlen h2
      refine ⟨y, fun j u hu => ?_, hg, hlen⟩
      have := hcell j (by rw [← hlen]; exact (List.getElem?_eq_some_iff.1 hu).1)
      rw [this, hu]
    obtain ⟨q, hq⟩ := choose_lt each
    have hll : ((List.range ln).map q).length = ln := by simp
    refine ⟨some x, ln, m, (List.range ln).map q, hcs, ⟨some x, m, by rw [hll], by rw [hll]; exact hl, fun h0 => ?_⟩, ?_, fun y hy => ?_⟩
    · rw [hll] at h0
      obtain ⟨h1, _, h3⟩ := hq 0 (by omega)
      obtain ⟨u, hu⟩ : ∃ u, (cs (q 0))[0]? = some u := ⟨_, List.getElem?_eq_getElem (by omega)⟩
      have h4 := h1 0 u hu
      obtain ⟨b, off, spot⟩ := x
      have hspot : spot = none := by simpa [Addr.add] using World.cell?_spot h4
      subst hspot
      rw [add_plain, add_plain] at h4
      refine ⟨b, off, rfl, World.block_lt_of_cell? _ _ h4, fun j y hj i u hu => ?_⟩
      have hjl : j < ln := by rw [← hll]; exact (List.getElem?_eq_some_iff.1 hj).1
      have hyq : q j = y := by simpa [hjl] using hj
      rw [← hyq] at hu
      have := (hq j (by omega)).1 i u hu
      rw [add_plain, add_plain] at this
      exact this
    · rw [hll]
      unfold maxLen at hm
      omega
    · rw [List.mem_map] at hy
      obtain ⟨i, hi, rfl⟩ := hy
      exact (hq i (by have := List.mem_range.1 hi; omega)).2.1
theorem open_rows_in {α : Type} [Inhabited α] {H : Type} {enc : TypeId × Value → H} {w : World} {t e : TypeId} {K n0 : Nat} {xs0 : List Value} {z : DataW H × List MemPlace} (cs : α → List Value)
    (ht : Try.prog.underlying t = some (.slice e)) (ce : Try.prog.cellsOf e = K) (hK : 0 < K)
    (elem : ∀ n xs x, xs.length = K → DataW.trod enc Try.prog w 0 (fun _ => true) true n e xs = some x → ∃ y, xs = cs y)
    (hx0 : DataW.trod enc Try.prog w 0 (fun _ => true) true n0 t xs0 = some z) :
    ∃ a len cap l, xs0 = [.slice a len cap] ∧ RowsAt w K cs (.slice a len cap) l ∧ l.length ≤ 9223372036854775807 := by
  obtain ⟨a, len, cap, l, h1, h2, h3, _⟩ := open_rows_good cs (fun _ => True) ht ce hK (fun n xs x h h' => (elem n xs x h h').imp fun _ e => ⟨e, trivial⟩) hx0
  exact ⟨a, len, cap, l, h1, h2, h3⟩
end Go.Proofs.Ytlacbjgjiggikaa
/- Specs, rules and pairs of sets of skills that come in, opened. FOR ALL LATER STAGES. -/
namespace Go.Proofs.Ytlacbjgjiggikaa
open Go.RowKit Go.ChangeShapes Go.WideShapes Go.Joins Go.Deep

theorem okWide_array {P : Program} {w : World} {r : Reach} {base : Nat} {t e : TypeId} {n : Nat} {v : Value} (ht : P.underlying t = some (.array n e)) (h : Value.okWide P w r base t v) : ∃ cs, v = .agg cs ∧ cs.size = P.cellsOf t := by
  simp only [Value.okWide, ht] at h
  obtain ⟨cs, h1, h2, _⟩ := h
  exact ⟨cs, h1, h2⟩
theorem trod_seven {P : Program} {H : Type} {enc : TypeId × Value → H} {w : World} {base : Nat} {spare : Nat → Bool} {held : Bool} {t : TypeId} {f0 f1 f2 f3 f4 f5 f6 : Field} {fuel : Nat} {cs : List Value} {x : DataW H × List MemPlace} (ht : P.underlying t = some (.struct #[f0, f1, f2, f3, f4, f5, f6])) (h : DataW.trod enc P w base spare held fuel t cs = some x) :
    ∃ y0 y1 y2 y3 y4 y5 y6 n, DataW.trod enc P w base spare held n f0.type ((cs.drop f0.offset).take (P.cellsOf f0.type)) = some y0 ∧
      DataW.trod enc P w base spare held n f1.type ((cs.drop f1.offset).take (P.cellsOf f1.type)) = some y1 ∧
      DataW.trod enc P w base spare held n f2.type ((cs.drop f2.offset).take (P.cellsOf f2.type)) = some y2 ∧
      DataW.trod enc P w base spare held n f3.type ((cs.drop f3.offset).take (P.cellsOf f3.type)) = some y3 ∧
      DataW.trod enc P w base spare held n f4.type ((cs.drop f4.offset).take (P.cellsOf f4.type)) = some y4 ∧
      DataW.trod enc P w base spare held n f5.type ((cs.drop f5.offset).take (P.cellsOf f5.type)) = some y5 ∧
      DataW.trod enc P w base spare held n f6.type ((cs.drop f6.offset).take (P.cellsOf f6.type)) = some y6 := by
  obtain ⟨xs, n, _, rfl, hl, hlen, hf⟩ := DataW.trod_struct ht h
  match xs, hlen with
  | [y0, y1, y2, y3, y4, y5, y6], _ => exact ⟨y0, y1, y2, y3, y4, y5, y6, n, by simpa using hf 0 f0 rfl, by simpa using hf 1 f1 rfl, by simpa using hf 2 f2 rfl, by simpa using hf 3 f3 rfl, by simpa using hf 4 f4 rfl, by simpa using hf 5 f5 rfl, by simpa using hf 6 f6 rfl⟩
theorem trod_eight {P : Program} {H : Type} {enc : TypeId × Value → H} {w : World} {base : Nat} {spare : Nat → Bool} {held : Bool} {t : TypeId} {f0 f1 f2 f3 f4 f5 f6 f7 : Field} {fuel : Nat} {cs : List Value} {x : DataW H × List MemPlace} (ht : P.underlying t = some (.struct #[f0, f1, f2, f3, f4, f5, f6, f7])) (h : DataW.trod enc P w base spare held fuel t cs = some x) :
    ∃ y0 y1 y2 y3 y4 y5 y6 y7 n, DataW.trod enc P w base spare held n f0.type ((cs.drop f0.offset).take (P.cellsOf f0.type)) = some y0 ∧
      DataW.trod enc P w base spare held n f1.type ((cs.drop f1.offset).take (P.cellsOf f1.type)) = some y1 ∧
      DataW.trod enc P w base spare held n f2.type ((cs.drop f2.offset).take (P.cellsOf f2.type)) = some y2 ∧
      DataW.trod enc P w base spare held n f3.type ((cs.drop f3.offset).take (P.cellsOf f3.type)) = some y3 ∧
      DataW.trod enc P w base spare held n f4.type ((cs.drop f4.offset).take (P.cellsOf f4.type)) = some y4 ∧
      DataW.trod enc P w base spare held n f5.type ((cs.drop f5.offset).take (P.cellsOf f5.type)) = some y5 ∧
      DataW.trod enc P w base spare held n f6.type ((cs.drop f6.offset).take (P.cellsOf f6.type)) = some y6 ∧
      DataW.trod enc P w base spare held n f7.type ((cs.drop f7.offset).take (P.cellsOf f7.type)) = some y7 := by
  obtain ⟨xs, n, _, rfl, hl, hlen, hf⟩ := DataW.trod_struct ht h
  match xs, hlen with
  | [y0, y1, y2, y3, y4, y5, y6, y7], _ => exact ⟨y0, y1, y2, y3, y4, y5, y6, y7, n, by simpa using hf 0 f0 rfl, by simpa using hf 1 f1 rfl, by simpa using hf 2 f2 rfl, by simpa using hf 3 f3 rfl, by simpa using hf 4 f4 rfl, by simpa using hf 5 f5 rfl, by simpa using hf 6 f6 rfl, by simpa using hf 7 f7 rfl⟩
theorem list9 {α : Type} {l : List α} (h : l.length = 9) : ∃ a b c d e f g h i, l = [a, b, c, d, e, f, g, h, i] := by
  match l, h with
  | [a, b, c, d, e, f, g, h, i], _ => exact ⟨a, b, c, d, e, f, g, h, i, rfl⟩
theorem list8 {α : Type} {l : List α} (h : l.length = 8) : ∃ a b c d e f g h, l = [a, b, c, d, e, f, g, h] := by
  match l, h with
  | [a, b, c, d, e, f, g, h], _ => exact ⟨a, b, c, d, e, f, g, h, rfl⟩

theorem cells_spec : Try.prog.cellsOf 37 = 9 := by kernel_rfl
theorem cells_u64 : Try.prog.cellsOf 33 = 1 := by kernel_rfl
theorem cells_ints : Try.prog.cellsOf 29 = 1 := by kernel_rfl
def U64 (n : Int) : Prop := 0 ≤ n ∧ n < 18446744073709551616
theorem U64.nat {n : Int} (h : U64 n) : ∃ k : Nat, n = (k : Int) ∧ k < 2 ^ 64 := ⟨n.toNat, by have := h.1; omega, by have := h.1; have := h.2; omega⟩
structure Sp.In (x : Sp) : Prop where
  id : In64 x.id
  prio : In64 x.prio
  sk : U64 x.sk
  ge : U64 x.ge
  fx : In64 x.fx
  fy : In64 x.fy
  tx : In64 x.tx
  ty : In64 x.ty
  len : x.aft.length ≤ 9223372036854775807
  aft : ∀ n ∈ x.aft, In64 n
set_option maxRecDepth 100000 in
theorem trod_spec {H : Type} {enc : TypeId × Value → H} {w : World} {fuel : Nat} {cs : List Value} {x : DataW H × List MemPlace} (hl : cs.length = 9) (h : DataW.trod enc Try.prog w 0 (fun _ => true) true fuel 37 cs = some x) : ∃ a : Sp, cs = csSp a ∧ IntsAt w a.v a.aft ∧ a.In := by
  obtain ⟨c0, c1, c2, c3, c4, c5, c6, c7, c8, rfl⟩ := list9 hl
  obtain ⟨y0, y1, y2, y3, y4, y5, y6, k, h0, h1, h2, h3, h4, h5, h6⟩ := trod_seven Try.underlying37 h
  obtain ⟨z0, z1, m, _, _, g0, g1⟩ := trod_struct2 Try.underlying35 h4
  obtain ⟨u0, u1, n, _, _, f0, f1⟩ := trod_struct2 Try.underlying35 h5
  simp only [cells_int_pt, cells_point, cells_u64, cells_ints, List.drop_zero, List.take_succ_cons, List.take_zero, List.drop_succ_cons] at h0 h1 h2 h3 g0 g1 f0 f1 h6
  obtain ⟨a, e0, _, w0⟩ := DataW.trod_int Try.underlying3 h0
  obtain ⟨b, e1, _, w1⟩ := DataW.trod_int Try.underlying3 h1
  obtain ⟨c, e2, _, w2⟩ := DataW.trod_int Try.underlying33 h2
  obtain ⟨d, e3, _, w3⟩ := DataW.trod_int Try.underlying33 h3
  obtain ⟨e, e4, _, w4⟩ := DataW.trod_int Try.underlying3 g0
  obtain ⟨f, e5, _, w5⟩ := DataW.trod_int Try.underlying3 g1
  obtain ⟨g, e6, _, w6⟩ := DataW.trod_int Try.underlying3 f0
  obtain ⟨i, e7, _, w7⟩ := DataW.trod_int Try.underlying3 f1
  obtain ⟨s, len, cap, l, e8, hr, hlen, hw⟩ := open_rows_good csI In64 Try.underlying29 cells_int_pt (by decide) (by
    intro n xs x _ hx
    obtain ⟨a, e0, _, wa⟩ := DataW.trod_int Try.underlying3 hx
    exact ⟨a, e0, in64_of_wf wa⟩) h6
  simp at e0 e1 e2 e3 e4 e5 e6 e7 e8
  subst e0 e1 e2 e3 e4 e5 e6 e7 e8
  obtain ⟨s', c', e9⟩ := RowsAt.form hr
  cases e9
  exact ⟨⟨a, b, c, d, e, f, g, i, s, cap, l⟩, rfl, RowsAt.ints hr, in64_of_wf w0, in64_of_wf w1, u64_bd w2, u64_bd w3, in64_of_wf w4, in64_of_wf w5, in64_of_wf w6, in64_of_wf w7, hlen, hw⟩
set_option maxRecDepth 100000 in
theorem open_spec {H : Type} {enc : TypeId × Value → H} {w : World} {base : Nat} {v : Value} {d : DataW H} {p : List MemPlace} (hok : Value.okWide Try.prog w .any base 37 v) (h : DataW.Trod enc Try.prog w 0 (fun _ => true) true 37 v d p) :
    ∃ x : Sp, v = spv x ∧ IntsAt w x.v x.aft ∧ x.In := by
  obtain ⟨cs, rfl, hsz⟩ := okWide_struct Try.underlying37 hok
  obtain ⟨fuel, hf⟩ := h
  have hl : cs.toList.length = 9 := by rw [Array.length_toList]; exact hsz.trans cells_spec
  obtain ⟨a, e, h1, h2⟩ := trod_spec hl (by simpa [Value.cells] using hf)
  refine ⟨a, ?_, h1, h2⟩
  have : cs = (csSp a).toArray := by rw [← e]
  rw [this]
  rfl

structure Ru.In (x : Ru) : Prop where
  tasks : In64 x.tasks
  crew : In64 x.crew
  units : In64 x.units
  lease : In64 x.lease
  tries : In64 x.tries
  rate : In64 x.rate
  start : In64 x.start
  len : x.ais.length ≤ 9223372036854775807
  ais : ∀ a ∈ x.ais, Ais.In a
theorem list2 {α : Type} {l : List α} (h : l.length = 2) : ∃ a b, l = [a, b] := by
  match l, h with
  | [a, b], _ => exact ⟨a, b, rfl⟩
end Go.Proofs.Ytlacbjgjiggikaa
/- Lists of specs, lists of tasks that come in, opened. FOR ALL LATER STAGES. -/
namespace Go.Proofs.Ytlacbjgjiggikaa
open Go.RowKit Go.ChangeShapes Go.WideShapes Go.Joins Go.Deep

set_option maxRecDepth 100000 in
theorem open_specs {H : Type} {enc : TypeId × Value → H} {w : World} {base : Nat} {v : Value} {d : DataW H} {p : List MemPlace} (hok : Value.okWide Try.prog w .any base 23 v) (h : DataW.Trod enc Try.prog w 0 (fun _ => true) true 23 v d p) :
    ∃ l : List Sp, SpsAt w v l ∧ l.length ≤ 9223372036854775807 ∧ ∀ x ∈ l, x.In := by
  obtain ⟨l, h1, h2, h3⟩ := open_rows csSp (fun x => IntsAt w x.v x.aft ∧ x.In) Try.underlying23 cells_spec (by decide) (fun _ _ _ hl h => trod_spec hl h) hok h
  exact ⟨l, ⟨h1, fun x hx => (h3 x hx).1⟩, h2, fun x hx => (h3 x hx).2⟩

theorem trod_six {P : Program} {H : Type} {enc : TypeId × Value → H} {w : World} {base : Nat} {spare : Nat → Bool} {held : Bool} {t : TypeId} {f0 f1 f2 f3 f4 f5 : Field} {fuel : Nat} {cs : List Value} {x : DataW H × List MemPlace} (ht : P.underlying t = some (.struct #[f0, f1, f2, f3, f4, f5])) (h : DataW.trod enc P w base spare held fuel t cs = some x) :
    ∃ y0 y1 y2 y3 y4 y5 n, DataW.trod enc P w base spare held n f0.type ((cs.drop f0.offset).take (P.cellsOf f0.type)) = some y0 ∧
      DataW.trod enc P w base spare held n f1.type ((cs.drop f1.offset).take (P.cellsOf f1.type)) = some y1 ∧
      DataW.trod enc P w base spare held n f2.type ((cs.drop f2.offset).take (P.cellsOf f2.type)) = some y2 ∧
      DataW.trod enc P w base spare held n f3.type ((cs.drop f3.offset).take (P.cellsOf f3.type)) = some y3 ∧
      DataW.trod enc P w base spare held n f4.type ((cs.drop f4.offset).take (P.cellsOf f4.type)) = some y4 ∧
      DataW.trod enc P w base spare held n f5.type ((cs.drop f5.offset).take (P.cellsOf f5.type)) = some y5 := by
  obtain ⟨xs, n, _, rfl, hl, hlen, hf⟩ := DataW.trod_struct ht h
  match xs, hlen with
  | [y0, y1, y2, y3, y4, y5], _ => exact ⟨y0, y1, y2, y3, y4, y5, n, by simpa using hf 0 f0 rfl, by simpa using hf 1 f1 rfl, by simpa using hf 2 f2 rfl, by simpa using hf 3 f3 rfl, by simpa using hf 4 f4 rfl, by simpa using hf 5 f5 rfl⟩
theorem list14 {α : Type} {l : List α} (h : l.length = 14) : ∃ m a b c d e, m.length = 9 ∧ l = m ++ [a, b, c, d, e] := by
  match l, h with
  | [x0, x1, x2, x3, x4, x5, x6, x7, x8, a, b, c, d, e], _ => exact ⟨[x0, x1, x2, x3, x4, x5, x6, x7, x8], a, b, c, d, e, rfl, rfl⟩
theorem cells_task : Try.prog.cellsOf 41 = 14 := by kernel_rfl
structure Tk.In (x : Tk) : Prop where
  sp : x.sp.In
  st : In64 x.st
  seq : In64 x.seq
  since : In64 x.since
  lost : In64 x.lost
  len : x.burnt.length ≤ 9223372036854775807
  burnt : ∀ n ∈ x.burnt, In64 n
set_option maxRecDepth 100000 in
theorem trod_task {H : Type} {enc : TypeId × Value → H} {w : World} {fuel : Nat} {cs : List Value} {x : DataW H × List MemPlace} (hl : cs.length = 14) (h : DataW.trod enc Try.prog w 0 (fun _ => true) true fuel 41 cs = some x) : ∃ a : Tk, cs = csTk a ∧ IntsAt w a.sp.v a.sp.aft ∧ IntsAt w (.slice a.ba a.burnt.length a.bc) a.burnt ∧ a.In := by
  obtain ⟨m, c9, c10, c11, c12, c13, hm, rfl⟩ := list14 hl
  obtain ⟨y0, y1, y2, y3, y4, y5, k, h0, h1, h2, h3, h4, h5⟩ := trod_six Try.underlying41 h
  obtain ⟨d0, d1, d2, d3, d4, d5, d6, d7, d8, rfl⟩ := list9 hm
  simp only [cells_spec, cells_int_pt, cells_ints, List.cons_append, List.nil_append, List.drop_zero, List.take_succ_cons, List.take_zero, List.drop_succ_cons] at h0 h1 h2 h3 h4 h5
  obtain ⟨sp, e0, hi, hin⟩ := trod_spec rfl h0
  obtain ⟨b, e1, _, w1⟩ := DataW.trod_int Try.underlying3 h1
  obtain ⟨c, e2, _, w2⟩ := DataW.trod_int Try.underlying3 h2
  obtain ⟨d, e3, _, w3⟩ := DataW.trod_int Try.underlying3 h3
  obtain ⟨e, e4, _, w4⟩ := DataW.trod_int Try.underlying3 h4
  obtain ⟨s, len, cap, l, e5, hr, hlen, hw⟩ := open_rows_good csI In64 Try.underlying29 cells_int_pt (by decide) (by
    intro n xs x _ hx
    obtain ⟨a, e0, _, wa⟩ := DataW.trod_int Try.underlying3 hx
    exact ⟨a, e0, in64_of_wf wa⟩) h5
  simp at e1 e2 e3 e4 e5
  subst e1 e2 e3 e4 e5
  obtain ⟨s', c', e9⟩ := RowsAt.form hr
  cases e9
  refine ⟨⟨sp, b, c, d, e, s, cap, l⟩, ?_, hi, RowsAt.ints hr, hin, in64_of_wf w1, in64_of_wf w2, in64_of_wf w3, in64_of_wf w4, hlen, hw⟩
  rw [e0]
  rfl
set_option maxRecDepth 100000 in
theorem open_tasks {H : Type} {enc : TypeId × Value → H} {w : World} {base : Nat} {v : Value} {d : DataW H} {p : List MemPlace} (hok : Value.okWide Try.prog w .any base 22 v) (h : DataW.Trod enc Try.prog w 0 (fun _ => true) true 22 v d p) :
    ∃ l : List Tk, RowsAt w 14 csTk v l ∧ l.length ≤ 9223372036854775807 ∧ ∀ x ∈ l, (IntsAt w x.sp.v x.sp.aft ∧ IntsAt w (.slice x.ba x.burnt.length x.bc) x.burnt) ∧ x.In := by
  obtain ⟨l, h1, h2, h3⟩ := open_rows csTk (fun x => (IntsAt w x.sp.v x.sp.aft ∧ IntsAt w (.slice x.ba x.burnt.length x.bc) x.burnt) ∧ x.In) Try.underlying22 cells_task (by decide) (fun _ _ _ hl h => by
    obtain ⟨a, e, g1, g2, g3⟩ := trod_task hl h
    exact ⟨a, e, ⟨g1, g2⟩, g3⟩) hok h
  exact ⟨l, h1, h2, h3⟩
end Go.Proofs.Ytlacbjgjiggikaa
/- Stage 23: the law BatchFull. -/
namespace Go.Proofs.Ytlacbjgjiggikaa
open Go.RowKit Go.Maps

theorem cnt_no {M : List Int} {n : Int} (h : n ∉ M) : M.count n = 0 := List.count_eq_zero.2 h
theorem tk_64 {K : List Tk} (h : ∀ x ∈ K, x.In) : ∀ t ∈ K, I64 t.sp.id ∧ I64 t.st := fun t ht => ⟨(h t ht).sp.id, (h t ht).st⟩
theorem sp_64 {L : List Sp} (h : ∀ x ∈ L, x.In) : Sp64 L := fun x hx => ⟨(h x hx).id, (h x hx).aft⟩

set_option maxHeartbeats 16000000 in
set_option maxRecDepth 100000 in
theorem batchFull_any (room : Int) (vk vl : Value) (K : List Tk) (L : List Sp) (w : World) (hk : RowsAt w 14 csTk vk K) (hl : SpsAt w vl L) (hK : ∀ x ∈ K, x.In) (hL : ∀ x ∈ L, x.In) :
    Calls Try.prog 4 #[.int .i64 room, vk, vl] w fun e w' => e = .returned (.bool true) ∧ Below w.heap.size w w' := by
  have HAL := Lib.hid fun w => bAlive_any w
  have GT := Lib.hid (refFew23_any vk K 70 w hk (by omega))
  have GS := Lib.hid fun w' hb => refFew22_any vl L 30 w' (hl.kept hb).1 (by omega)
  obtain ⟨va, vc, rfl⟩ := RowsAt.form hk
  obtain ⟨la, lc, rfl⟩ := hl.form
  cases f1 : fewT K 70 with
  | false =>
    rw [f1] at GT
    clear f1 hk hl hK hL
    go_enter Try.func4, Try.ntmps4
    go_wp2_with (first
      | (go_at_call 5; (with_reducible refine GT.out.mono ?_); rintro e w1 ⟨rfl, hb⟩; have HB := Lib.hid hb; clear hb)
      | (go_at_call 8; (with_reducible refine (HAL.out _).mono ?_); rintro e w9 ⟨rfl, hb⟩; replace HB := Lib.hid (HB.out.trans (hb.mono HB.out.size)); clear hb))
    go_ret
    exact ⟨rfl, HB.out⟩
  | true =>
  rw [f1] at GT
  cases f2 : fewS L 30 with
  | false =>
    rw [f2] at GS
    clear f1 f2 hk hl hK hL
    go_enter Try.func4, Try.ntmps4
    go_wp2_with (first
      | (go_at_call 5; (with_reducible refine GT.out.mono ?_); rintro e w1 ⟨rfl, hb⟩; have HB := Lib.hid hb; clear hb)
      | (go_at_call 6; (with_reducible refine (GS.out _ HB.out).mono ?_); rintro e w2 ⟨rfl, hb⟩; replace HB := Lib.hid (HB.out.trans (hb.mono HB.out.size)); clear hb)
      | (go_at_call 8; (with_reducible refine (HAL.out _).mono ?_); rintro e w9 ⟨rfl, hb⟩; replace HB := Lib.hid (HB.out.trans (hb.mono HB.out.size)); clear hb))
    go_ret
    exact ⟨rfl, HB.out⟩
  | true =>
  rw [f2] at GS
  have f3 := fewT_iff.1 f1
  have f4 := fewS_iff.1 f2
  have GC := fun w' hb => bCheck_any room (.slice va K.length vc) (.slice la L.length lc) K L w' (RowsAt.kept hk hb) (hl.kept hb) (by omega) (by omega) (tk_64 hK) (sp_64 hL) (fun x hx => (hL x hx).len)
  have k70 : (K.length : Int) ≤ 70 := f3.1
  have l30 : (L.length : Int) ≤ 30 := f4.1
  have k00 : (0 : Int) ≤ (K.length : Int) := by omega
  have l00 : (0 : Int) ≤ (L.length : Int) := by omega
  by_cases hz : bchk room K L = 0
  case neg =>
    replace GC := Lib.hid GC
    generalize bchk room K L = q at *
    have e1 : (q == 0) = false := beq_noI hz
    clear f1 f2 f3 f4 hk hl hK hL
    go_enter Try.func4, Try.ntmps4
    go_wp2_with (first
      | (go_at_call 5; (with_reducible refine GT.out.mono ?_); rintro e w1 ⟨rfl, hb⟩; have HB := Lib.hid hb; clear hb)
      | (go_at_call 6; (with_reducible refine (GS.out _ HB.out).mono ?_); rintro e w2 ⟨rfl, hb⟩; replace HB := Lib.hid (HB.out.trans (hb.mono HB.out.size)); clear hb)
      | (go_at_call 7; (with_reducible refine (GC.out _ HB.out).mono ?_); rintro e w3 ⟨rfl, hb⟩; replace HB := Lib.hid (HB.out.trans (hb.mono HB.out.size)); clear hb)
      | (go_at_call 8; (with_reducible refine (HAL.out _).mono ?_); rintro e w9 ⟨rfl, hb⟩; replace HB := Lib.hid (HB.out.trans (hb.mono HB.out.size)); clear hb))
    go_ret
    exact ⟨rfl, HB.out⟩
  rw [hz] at GC
  replace GC := Lib.hid GC
  have HOK := Lib.hid (bchk_iff.1 hz)
  have HK := Lib.hid hk
  have HL := Lib.hid hl
  have HK64 := Lib.hid (tk_64 hK)
  have HL64 := Lib.hid (sp_64 hL)
  have HLI := Lib.hid fun x hx => chk_len (HOK.out.chk x hx)
  have hmk : ∀ w : World, (Instr.makeMap 39 none).run Try.prog w = .ok (.map (some w.heap.size)) (w.alloc (.map #[] 0)) := fun w => by kernel_rfl
  clear f1 f2 f3 f4 hk hl hK hL hz
  go_enter Try.func4, Try.ntmps4
  go_upto_region 4 with (first
    | (go_at_call 5; (with_reducible refine GT.out.mono ?_); rintro e w1 ⟨rfl, hb⟩; have HB := Lib.hid hb; clear hb)
    | (go_at_call 6; (with_reducible refine (GS.out _ HB.out).mono ?_); rintro e w2 ⟨rfl, hb⟩; replace HB := Lib.hid (HB.out.trans (hb.mono HB.out.size)); clear hb)
    | (go_at_call 7; (with_reducible refine (GC.out _ HB.out).mono ?_); rintro e w3 ⟨rfl, hb⟩; replace HB := Lib.hid (HB.out.trans (hb.mono HB.out.size)); clear hb))
  have hM := MapI.new w3
  have hal := (Below.refl w3.heap.size w3).alloc (Nat.le_refl _) (.map #[] 0)
  have HB2 := Lib.hid (HB.out.trans (hal.mono HB.out.size))
  generalize w3.alloc (Obj.map #[] 0) = W2 at *
  have hbw : w.heap.size ≤ w3.heap.size := HB.out.size
  generalize w3.heap.size = b at *
  have HM := Lib.hid hM
  have HBW := Lib.hid hbw
  clear hM hal hmk hbw HB
  go_wp2
  go_loopg [36] K.length (fun kx iv ws => ∃ k m : Nat, k ≤ K.length ∧ K.length - k ≤ kx ∧ m ≤ k ∧ iv = .int .i64 k ∧ Hid (MapI ws b m (cntG (idsK (K.take k)))) ∧ Hid (Below w.heap.size w ws))
  case atStart => exact ⟨0, 0, Nat.zero_le _, Nat.le_refl _, Nat.le_refl _, rfl, HM.out, HB2.out⟩
  case round =>
    clear HM HB2
    obtain ⟨k, m, hk, hkx, hmk, rfl, HM, HB⟩ := hrel
    by_cases hlt : k < K.length
    · obtain ⟨g, o, cc, id, prio, sk, ge, fx, fy, tx, ty, a, c, l, st, seq, si, lo, ba, bc, bu, he, e, hlc, p0, p1, p2, p3, p4, p5, p6, p7, p8, p9, p10, p11, p12, p13⟩ := tks_spot (RowsAt.kept HK.out HB.out) k hlt
      cases e
      have HKK := Lib.hid (And.intro hlt (And.intro hkx hmk))
      have hx64 := (HK64.out _ (List.getElem_mem hlt)).1
      have hst := idsK_take K k hlt
      rw [he] at hx64 hst
      dsimp only at hx64 hst
      have hal := (Below.refl wr.heap.size wr).alloc (Nat.le_refl _) (.cells #[.int .i64 id, .int .i64 prio, .int .u64 sk, .int .u64 ge, .int .i64 fx, .int .i64 fy, .int .i64 tx, .int .i64 ty, .slice a l.length c, .int .i64 st, .int .i64 seq, .int .i64 si, .int .i64 lo, .slice ba bu.length bc] 41)
      have x0 := (Blk.new wr [.int .i64 id, .int .i64 prio, .int .u64 sk, .int .u64 ge, .int .i64 fx, .int .i64 fy, .int .i64 tx, .int .i64 ty, .slice a l.length c, .int .i64 st, .int .i64 seq, .int .i64 si, .int .i64 lo, .slice ba bu.length bc] 41).cell 0 rfl
      have hm5 := HM.out.kept hal
      have hlk := hm5.look1 hx64
      rw [cntG_getD] at hlk
      have hc1 : (idsK (K.take k)).count id ≤ 70 := by
        have := List.count_le_length (a := id) (l := idsK (K.take k))
        rw [show (idsK (K.take k)).length = (K.take k).length from List.length_map _, List.length_take] at this
        omega
      have hup := cntG_snoc (idsK (K.take k)) id
      rw [← hst] at hup
      generalize (idsK (K.take k)).count id = q at *
      have q1 : (q : Int) ≤ 70 := by omega
      have q0 : (0 : Int) ≤ (q : Int) := by omega
      have k1 : (k : Int) < (K.length : Int) := by omega
      have k0 : (0 : Int) ≤ (k : Int) := by omega
      have k2 : (k : Int) ≤ 70 := by omega
      obtain ⟨w7, hrun, h7, g7⟩ := hm5.put (by omega) hx64 ((q : Int) + 1) (by unfold I64; omega)
      rw [← hup] at h7
      have hm7 : (if (cntG (idsK (K.take k)) id).isSome then m else m + 1) ≤ k + 1 := by split <;> omega
      generalize (if (cntG (idsK (K.take k)) id).isSome then m else m + 1) = m3 at *
      have HM3 := Lib.hid hm7
      have H7 := Lib.hid h7
      have HB7 := Lib.hid ((HB.out.alloc HB.out.size (.cells #[.int .i64 id, .int .i64 prio, .int .u64 sk, .int .u64 ge, .int .i64 fx, .int .i64 fy, .int .i64 tx, .int .i64 ty, .slice a l.length c, .int .i64 st, .int .i64 seq, .int .i64 si, .int .i64 lo, .slice ba bu.length bc] 41)).grown g7 (Nat.le_trans HB.out.size hal.size) (fun k hk => by injection hk with hk; rw [← hk]; exact HBW.out))
      clear hk hkx hmk hlt hx64 hst he hal hm5 hc1 hup h7 g7 hm7 HM HB
      go_wp2
      go_roundg (K.length - (k + 1))
      case measure => have := HKK.out; omega
      case rel => exact ⟨k + 1, m3, by have := HKK.out; omega, Nat.le_refl _, HM3.out, by go_num, H7.out, HB7.out⟩
    · have hke : k = K.length := by omega
      subst hke
      rw [List.take_length] at HM
      have m70 : (m : Int) ≤ 70 := by omega
      have m00 : (0 : Int) ≤ (m : Int) := by omega
      clear hk hkx hmk hlt
      go_upto_region 10 with (at_len; refine wpList_lenG (E := EI) rfl _ _ rfl Try.underlying39 rfl HM.out ?_)
      go_wp2
      go_loopg [51] L.length (fun kx iv ws => ∃ k m2 : Nat, k ≤ L.length ∧ L.length - k ≤ kx ∧ m2 = m + k ∧ iv = .int .i64 k ∧ Hid (MapI ws b m2 (cntG (idsK K ++ idsO (L.take k)))) ∧ Hid (Below w.heap.size w ws))
      case atStart => exact ⟨0, m, Nat.zero_le _, Nat.le_refl _, rfl, rfl, by rw [show idsK K ++ idsO (L.take 0) = idsK K from by simp [idsO]]; exact HM.out, HB.out⟩
      case round =>
        clear HM HB
        obtain ⟨k, m2, hk, hkx, hm2, rfl, HM, HB⟩ := hrel
        by_cases hlt : k < L.length
        · obtain ⟨g, o, cc, id, prio, sk, ge, fx, fy, tx, ty, a, c, l, he, e, hlc, p0, p1, p2, p3, p4, p5, p6, p7, p8, hi8⟩ := (HL.out.kept HB.out).spot k hlt
          cases e
          have HKK := Lib.hid (And.intro hlt (And.intro hkx hm2))
          have hx64 := (HL64.out _ (List.getElem_mem hlt)).1
          have hst := idsO_take L k hlt
          have hnew := (newB_iff.1 (HOK.out.new _ (List.getElem_mem hlt)))
          have hnd := HOK.out.nodup
          rw [he] at hx64 hst hnew
          dsimp only at hx64 hst hnew
          have hno : id ∉ idsK K ++ idsO (L.take k) := fun h => by
            rcases List.mem_append.1 h with h | h
            · exact hnew.1 h
            · have h1 : idsO L = idsO (L.take (k + 1)) ++ idsO (L.drop (k + 1)) := by
                unfold idsO
                rw [← List.map_append, List.take_append_drop]
              rw [h1, hst] at hnd
              exact (List.nodup_append.1 (List.nodup_append.1 hnd).1).2.2 _ h _ List.mem_cons_self rfl
          have hal := (Below.refl wr.heap.size wr).alloc (Nat.le_refl _) (.cells #[.int .i64 id, .int .i64 prio, .int .u64 sk, .int .u64 ge, .int .i64 fx, .int .i64 fy, .int .i64 tx, .int .i64 ty, .slice a l.length c] 37)
          have hX := Blk.new wr [.int .i64 id, .int .i64 prio, .int .u64 sk, .int .u64 ge, .int .i64 fx, .int .i64 fy, .int .i64 tx, .int .i64 ty, .slice a l.length c] 37
          have x0 := hX.cell 0 rfl
          have hm5 := HM.out.kept hal
          have hlk := hm5.look1 hx64
          rw [cntG_getD, cnt_no hno] at hlk
          have hup := cntG_snoc (idsK K ++ idsO (L.take k)) id
          rw [cnt_no hno, List.append_assoc, ← hst] at hup
          have k1 : (k : Int) < (L.length : Int) := by omega
          have k0 : (0 : Int) ≤ (k : Int) := by omega
          have k2 : (k : Int) ≤ 30 := by omega
          obtain ⟨w7, hrun, h7, g7⟩ := hm5.put (by omega) hx64 1 (by unfold I64; omega)
          have hns : (cntG (idsK K ++ idsO (L.take k)) id).isSome = false := by rw [cntG_some, inL_not]; exact hno
          rw [hns, if_neg (by decide), show (1 : Int) = ((0 : Nat) : Int) + 1 from rfl, ← hup] at h7
          have hlk2 := h7.look1 hx64
          have hc1 : (idsK K ++ idsO (L.take (k + 1))).count id = 1 := by
            rw [hst, ← List.append_assoc, List.count_append, cnt_no hno, List.count_singleton_self]
          rw [cntG_getD, hc1] at hlk2
          have y0 := (hX.grown g7 (by have := HM.out.lt; intro e; injection e with e; omega)).cell 0 rfl
          have H7 := Lib.hid h7
          have HB7 := Lib.hid ((HB.out.alloc HB.out.size (.cells #[.int .i64 id, .int .i64 prio, .int .u64 sk, .int .u64 ge, .int .i64 fx, .int .i64 fy, .int .i64 tx, .int .i64 ty, .slice a l.length c] 37)).grown g7 (Nat.le_trans HB.out.size hal.size) (fun k hk => by injection hk with hk; rw [← hk]; exact HBW.out))
          simp only [Int.natCast_zero, Int.natCast_one] at hlk hlk2 hrun
          clear hk hkx hm2 hlt hx64 hst hnew hnd hno he hal hX hm5 hup h7 g7 hns hc1 hi8 HM HB
          go_wp2
          go_roundg (L.length - (k + 1))
          case measure => have := HKK.out; omega
          case rel => exact ⟨k + 1, m2 + 1, by have := HKK.out; omega, Nat.le_refl _, by have := HKK.out; omega, by go_num, H7.out, HB7.out⟩
        · have hke : k = L.length := by omega
          subst hke
          rw [List.take_length] at HM
          have e2 : ((m2 : Int) == (m : Int) + (L.length : Int)) = true := by rw [hm2]; simp
          generalize wr = W3 at *
          have HW3 := Lib.hid HB.out
          clear hk hkx hlt hm2
          go_wp2
          go_loopg [68] L.length (fun kx iv ws => ∃ k : Nat, k ≤ L.length ∧ L.length - k ≤ kx ∧ iv = .int .i64 k ∧ Hid (Below W3.heap.size W3 ws))
          case atStart => exact ⟨0, Nat.zero_le _, Nat.le_refl _, rfl, Below.refl _ _⟩
          case round =>
            obtain ⟨k, hk, hkx, rfl, HB4⟩ := hrel
            have HM4 := Lib.hid (HM.out.kept HB4.out)
            have hb4 := HW3.out.trans (HB4.out.mono HW3.out.size)
            by_cases hlt : k < L.length
            · obtain ⟨g, o, cc, id, prio, sk, ge, fx, fy, tx, ty, a, c, l, he, e, hlc, p0, p1, p2, p3, p4, p5, p6, p7, p8, hi8⟩ := (HL.out.kept hb4).spot k hlt
              cases e
              have HKK := Lib.hid (And.intro hlt hkx)
              have hx64 := (HL64.out _ (List.getElem_mem hlt)).2
              have hids := fun n hn => HOK.out.ids (List.getElem_mem hlt) (n := n) hn
              have hl8 := HLI.out _ (List.getElem_mem hlt)
              rw [he] at hx64 hids hl8
              dsimp only at hx64 hids hl8
              have hal := (Below.refl wr.heap.size wr).alloc (Nat.le_refl _) (.cells #[.int .i64 id, .int .i64 prio, .int .u64 sk, .int .u64 ge, .int .i64 fx, .int .i64 fy, .int .i64 tx, .int .i64 ty, .slice a l.length c] 37)
              have x8 := (Blk.new wr [.int .i64 id, .int .i64 prio, .int .u64 sk, .int .u64 ge, .int .i64 fx, .int .i64 fy, .int .i64 tx, .int .i64 ty, .slice a l.length c] 37).cell 8 rfl
              have k1 : (k : Int) < (L.length : Int) := by omega
              have k0 : (0 : Int) ≤ (k : Int) := by omega
              have k2 : (k : Int) ≤ 30 := by omega
              have HB5 := Lib.hid (HB4.out.alloc HB4.out.size (.cells #[.int .i64 id, .int .i64 prio, .int .u64 sk, .int .u64 ge, .int .i64 fx, .int .i64 fy, .int .i64 tx, .int .i64 ty, .slice a l.length c] 37))
              have HE := Lib.hid (show IntsAt (wr.alloc (.cells #[.int .i64 id, .int .i64 prio, .int .u64 sk, .int .u64 ge, .int .i64 fx, .int .i64 fy, .int .i64 tx, .int .i64 ty, .slice a l.length c] 37)) (.slice a l.length c) l from hi8.below hal)
              have HX64 := Lib.hid hx64
              have HIDS := Lib.hid hids
              have HL8 := Lib.hid hl8
              clear hk hkx hlt hx64 hids hl8 he hal hi8 HM4 hb4
              go_upto_region 20 with (fail)
              generalize wr.alloc (.cells #[.int .i64 id, .int .i64 prio, .int .u64 sk, .int .u64 ge, .int .i64 fx, .int .i64 fy, .int .i64 tx, .int .i64 ty, .slice a l.length c] 37) = W5 at *
              clear p0 p1 p2 p3 p4 p5 p6 p7 p8
              go_wp2
              clear x8
              go_loopg [75] l.length (fun jx jv ws => ∃ j : Nat, j ≤ l.length ∧ l.length - j ≤ jx ∧ jv = .int .i64 j ∧ Hid (Below W5.heap.size W5 ws))
              case atStart => exact ⟨0, Nat.zero_le _, Nat.le_refl _, rfl, Below.refl _ _⟩
              case round =>
                obtain ⟨j, hj, hjx, rfl, HB6⟩ := hrel
                have hb6 := HB5.out.trans (HB6.out.mono HB5.out.size)
                by_cases hjl : j < l.length
                · obtain ⟨g, o, cc, e, hlc, _, p0⟩ := (HE.out.below HB6.out).spot j hjl
                  cases e
                  have HJJ := Lib.hid (And.intro hjl hjx)
                  have hn64 := HX64.out _ (List.getElem_mem hjl)
                  have hin := HIDS.out _ (List.getElem_mem hjl)
                  generalize l[j] = n at *
                  have hlk := (HM.out.kept hb6).look1 hn64
                  rw [cntG_getD] at hlk
                  have hc : 0 < (idsK K ++ idsO L).count n := List.count_pos_iff.2 (List.mem_append.2 hin)
                  generalize (idsK K ++ idsO L).count n = q at *
                  have q0 : ((q : Int) == 0) = false := beq_noI (by omega)
                  have j1 : (j : Int) < (l.length : Int) := by omega
                  have j0 : (0 : Int) ≤ (j : Int) := by omega
                  have j2 : (j : Int) ≤ 8 := by have := HL8.out; omega
                  clear hj hjx hjl hn64 hin hc hb6
                  go_wp2
                  go_roundg (l.length - (j + 1))
                  case measure => have := HJJ.out; omega
                  case rel => exact ⟨j + 1, by have := HJJ.out; omega, Nat.le_refl _, by go_num, HB6.out⟩
                · have hje : j = l.length := by omega
                  subst hje
                  have HB7 := Lib.hid hb6
                  clear hj hjx hjl hb6
                  go_wp2
                  go_roundg (L.length - (k + 1))
                  case measure => have := HKK.out; omega
                  case rel => exact ⟨k + 1, by have := HKK.out; omega, Nat.le_refl _, by go_num, HB7.out⟩
            · have hke : k = L.length := by omega
              subst hke
              have hlpos : (0 : Int) < (L.length : Int) := by have := HOK.out.ne; omega
              have hfit : (K.length : Int) + (L.length : Int) ≤ room := HOK.out.fit
              replace HB := Lib.hid hb4
              clear hk hkx hlt hb4
              go_wp2_with (first
                | (at_len; refine wpList_lenG (E := EI) rfl _ _ rfl Try.underlying39 rfl HM4.out ?_)
                | (go_at_call 8; (with_reducible refine (HAL.out _).mono ?_); rintro e w9 ⟨rfl, hb⟩; replace HB := Lib.hid (HB.out.trans (hb.mono HB.out.size)); clear hb))
              go_ret
              exact ⟨rfl, HB.out⟩
end Go.Proofs.Ytlacbjgjiggikaa
