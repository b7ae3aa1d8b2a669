/- Stage 18's program: a queue in memory; has, place, Len, Room, First, At. -/
import Derived.Test.YtdoanlemoegikaaFqMath
import Derived.Test.YtdoanlemoegikaaMapB
import Derived.Test.YtdoanlemoegikaaLabels
import Derived.Lib.MinMax
namespace Go.Proofs.Ytdoanlemoegikaa
open Go.RowKit

abbrev ptr18 (p : Nat) : Value := .pointer (some ⟨p, 0, none⟩)
/-- the queue's block and its map of n numbers -/
structure FqRaw (w : World) (p m : Nat) (R : List Int) (f : Nat) (room : Int) (n : Nat) (g : Int → Option Bool) : Prop where
  blk : Blk w p (qc R f room m)
  map : MapB w m n g
  len : R.length = 1024
section
variable {w w' : World} {p m : Nat} {R : List Int} {f : Nat} {room : Int} {n : Nat} {g : Int → Option Bool}
theorem FqRaw.ring (h : FqRaw w p m R f room n g) {k : Nat} {x : Int} (hx : R[k]? = some x) : w.cell? ⟨p, k, none⟩ = some (.int .i64 x) := h.blk.cell k (qc_at hx)
theorem FqRaw.free (h : FqRaw w p m R f room n g) {k : Nat} {x : Int} (hx : R[k]? = some x) : w.frozen? ⟨p, k, none⟩ = false := h.blk.free k (qc_at hx)
theorem FqRaw.fst (h : FqRaw w p m R f room n g) : w.cell? ⟨p, 1024, none⟩ = some (.int .i64 (f : Int)) := h.blk.cell 1024 (qc_rest h.len 0)
theorem FqRaw.fst_free (h : FqRaw w p m R f room n g) : w.frozen? ⟨p, 1024, none⟩ = false := h.blk.free 1024 (qc_rest h.len 0)
theorem FqRaw.room_ (h : FqRaw w p m R f room n g) : w.cell? ⟨p, 1025, none⟩ = some (.int .i64 room) := h.blk.cell 1025 (qc_rest h.len 1)
theorem FqRaw.in_ (h : FqRaw w p m R f room n g) : w.cell? ⟨p, 1026, none⟩ = some (.map (some m)) := h.blk.cell 1026 (qc_rest h.len 2)
theorem FqRaw.lt (h : FqRaw w p m R f room n g) : p < w.heap.size := World.block_lt_of_cell? w ⟨p, 1024, none⟩ h.fst
theorem FqRaw.ne (h : FqRaw w p m R f room n g) : m ≠ p := h.map.ne_cell h.fst
theorem FqRaw.same (h : FqRaw w p m R f room n g) (h1 : w'.heap[p]? = w.heap[p]?) (h2 : w'.heap[m]? = w.heap[m]?) : FqRaw w' p m R f room n g := ⟨h.blk.same h1, h.map.same h2, h.len⟩
theorem FqRaw.kept (h : FqRaw w p m R f room n g) (hb : Below w.heap.size w w') : FqRaw w' p m R f room n g := h.same (hb.block p h.lt) (hb.block m h.map.lt)
theorem FqRaw.put (h : FqRaw w p m R f room n g) {k : Nat} (hk : k < 1024) (x : Int) : FqRaw (w.setCell ⟨p, k, none⟩ (.int .i64 x)) p m (R.set k x) f room n g :=
  ⟨by have := h.blk.set k (.int .i64 x); rwa [qc_set h.len hk] at this, h.map.away _ _ h.ne, by rw [List.length_set]; exact h.len⟩
theorem FqRaw.move (h : FqRaw w p m R f room n g) (f' : Nat) : FqRaw (w.setCell ⟨p, 1024, none⟩ (.int .i64 (f' : Int))) p m R f' room n g :=
  ⟨by have := h.blk.set 1024 (.int .i64 (f' : Int)); rwa [qc_setf h.len] at this, h.map.away _ _ h.ne, h.len⟩
theorem FqRaw.mapped {n' : Nat} {g' : Int → Option Bool} (h : FqRaw w p m R f room n g) (hm : MapB w' m n' g') (hg : w.grownBy w' (some m)) : FqRaw w' p m R f room n' g' :=
  ⟨h.blk.same (hg.block p h.lt fun e => h.ne (Option.some.inj e).symm), hm, h.len⟩

theorem fHas_any {l : List Int} (x : Int) (h : FqRaw w p m R f room n (setB l)) (hx : I64 x) : Calls Try.prog 30 #[ptr18 p, .int .i64 x] w fun e w' => e = .returned (.bool (inL l x)) ∧ w = w' := by
  have c3 := h.in_
  have hm := h.map.look1 hx
  rw [setB_get] at hm
  generalize inL l x = t at *
  clear h hx
  go_enter Try.func30, Try.ntmps30
  go_wp2
  go_ret
  exact ⟨rfl, rfl⟩
theorem fHas_nil (x : Int) (w : World) : Calls Try.prog 30 #[.pointer none, .int .i64 x] w fun e w' => e = .returned (.bool false) ∧ w = w' := by
  go_enter Try.func30, Try.ntmps30
  go_wp2
  go_ret
  exact ⟨rfl, rfl⟩
theorem fPlace_any (k : Nat) (h : FqRaw w p m R f room n g) (hf : f < 1024) (hk : k ≤ 1024) : Calls Try.prog 33 #[ptr18 p, .int .i64 (k : Int)] w fun e w' => e = .returned (.int .i64 (((f + k) % 1024 : Nat) : Int)) ∧ w = w' := by
  have c1 := h.fst
  obtain ⟨t, ht⟩ : ∃ t, (f + k) % 1024 = t := ⟨_, rfl⟩
  have hr : ((f : Int) + (k : Int)) % 1024 = (t : Int) := by omega
  rw [ht]
  have f0 : (0 : Int) ≤ (f : Int) := by omega
  have f1 : (f : Int) < 1024 := by omega
  have k0 : (0 : Int) ≤ (k : Int) := by omega
  have k1 : (k : Int) ≤ 1024 := by omega
  clear h ht hf hk
  go_enter Try.func33, Try.ntmps33
  go_wp2
  go_ret
  exact ⟨ret_i hr, rfl⟩
theorem fLen_any (h : FqRaw w p m R f room n g) : Calls Try.prog 31 #[ptr18 p] w fun e w' => e = .returned (.int .i64 (n : Int)) ∧ w = w' := by
  have c3 := h.in_
  have HM := Lib.hid h.map
  clear h
  go_enter Try.func31, Try.ntmps31
  go_wp2_with (at_len; refine wpList_lenB rfl _ rfl rfl HM.out ?_)
  go_ret
  exact ⟨rfl, rfl⟩
theorem fLen_nil (w : World) : Calls Try.prog 31 #[.pointer none] w fun e w' => e = .returned (.int .i64 0) ∧ w = w' := by
  go_enter Try.func31, Try.ntmps31
  go_wp2
  go_ret
  exact ⟨rfl, rfl⟩
theorem fRoom_any (h : FqRaw w p m R f room n g) : Calls Try.prog 32 #[ptr18 p] w fun e w' => e = .returned (.int .i64 room) ∧ w = w' := by
  have c3 := h.room_
  clear h
  go_enter Try.func32, Try.ntmps32
  go_wp2
  go_ret
  exact ⟨rfl, rfl⟩
theorem fRoom_nil (w : World) : Calls Try.prog 32 #[.pointer none] w fun e w' => e = .returned (.int .i64 0) ∧ w = w' := by
  go_enter Try.func32, Try.ntmps32
  go_wp2
  go_ret
  exact ⟨rfl, rfl⟩

set_option maxHeartbeats 1000000 in
theorem fFirst_any {l : List Int} (h : FqRaw w p m R f room l.length (setB l)) (hr : RingIs R f l) : Calls Try.prog 28 #[ptr18 p] w fun e w' => e = .returned (.tuple #[.int .i64 (hdF l).1, .bool (hdF l).2]) ∧ Below w.heap.size w w' := by
  have H1 := Lib.hid (fLen_any h)
  cases l with
  | nil =>
    clear h hr
    go_enter Try.func28, Try.ntmps28
    go_wp2_with (go_at_call 31; (with_reducible refine H1.out.mono ?_); rintro e w1 ⟨rfl, rfl⟩)
    exact bodyPost_ret (v := .tuple #[.int .i64 0, .bool false]) (by simp [results, Try.results28, go_sem]) rfl ⟨rfl, Below.refl _ _⟩
  | cons x t =>
    have hx : R[f]? = some x := by
      have := hr.at_ 0 (by simp)
      have hf := hr.fl
      rwa [Nat.add_zero, Nat.mod_eq_of_lt hf] at this
    have c0 := h.ring hx
    have c1 := h.fst
    have f0 : (0 : Int) ≤ (f : Int) := by omega
    have f1 : (f : Int) < 1024 := by have := hr.fl; omega
    have hl : (((x :: t).length : Int) == 0) = false := beq_noI (by simp; omega)
    generalize (x :: t).length = n at *
    clear h hr hx
    simp only [hdF]
    go_enter Try.func28, Try.ntmps28
    go_wp2_with (go_at_call 31; (with_reducible refine H1.out.mono ?_); rintro e w1 ⟨rfl, rfl⟩)
    refine wp_region_calm0 (by kernel_rfl) (by kernel_rfl) fun M => ?_
    have m0 := fun n : In M.w => n.cell (M.cell c0)
    have m1 := fun n : In M.w => n.cell (M.cell c1)
    repeat (go_big_quiet_step (fail))
    refine wpQuiet_nil ?_
    clear m0 m1 M
    intro w1 hb
    have HB1 := Lib.hid hb
    clear hb
    go_wp2
    exact bodyPost_ret (v := .tuple #[.int .i64 x, .bool true]) (by simp [results, Try.results28, go_sem]) rfl ⟨rfl, HB1.out⟩
theorem fFirst_nil (w : World) : Calls Try.prog 28 #[.pointer none] w fun e w' => e = .returned (.tuple #[.int .i64 0, .bool false]) ∧ Below w.heap.size w w' := by
  have H1 := Lib.hid (fLen_nil w)
  go_enter Try.func28, Try.ntmps28
  go_wp2_with (go_at_call 31; (with_reducible refine H1.out.mono ?_); rintro e w1 ⟨rfl, rfl⟩)
  exact bodyPost_ret (v := .tuple #[.int .i64 0, .bool false]) (by simp [results, Try.results28, go_sem]) rfl ⟨rfl, Below.refl _ _⟩
end
end Go.Proofs.Ytdoanlemoegikaa
