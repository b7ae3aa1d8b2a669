/- Stage 15's program: a queue's block; time, reach, start, isFull; a map of items. -/
import Derived.Test.YtkhnkhkpjgemkaaAqMathB
import Derived.Test.YtkhnkhkpjgemkaaAgeA
import Derived.Test.YtkhnkhkpjgemkaaBun3
namespace Go.Proofs.Ytkhnkhkpjgemkaa
open Go.RowKit

/-! ### A map of items -/
def encIt (x : It) : DataW Unit := .agg [.lit (.int .i64 x.id), .lit (.int .i64 x.prio), .lit (.int .i64 x.since), .lit (.int .i64 x.seq)]
def readIt : Value → Option (DataW Unit × List MemPlace)
  | .agg cs => match cs.toList with
    | [.int .i64 a, .int .i64 b, .int .i64 c, .int .i64 d] => some (encIt ⟨a, b, c, d⟩, [])
    | _ => none
  | _ => none
theorem readIt_inv (v : Value) (x : It) (ps : List MemPlace) (h : readIt v = some (encIt x, ps)) : v = itv x := by
  unfold readIt at h
  split at h
  · rename_i cs
    split at h
    · rename_i a b c d hc
      simp only [Option.some.injEq, Prod.mk.injEq, encIt, DataW.agg.injEq, List.cons.injEq, DataW.lit.injEq, Lit.int.injEq, true_and, and_true] at h
      obtain ⟨⟨h1, h2, h3, h4⟩, _⟩ := h
      have : cs = #[.int .i64 a, .int .i64 b, .int .i64 c, .int .i64 d] := by
        rw [← Array.toArray_toList (xs := cs), hc]
      rw [this, h1, h2, h3, h4]
    · cases h
  · cases h
noncomputable def EIt : Elt Try.prog 28 where
  α := It
  val := fun x => itv x
  enc := encIt
  ok := fun _ => True
  z := ⟨0, 0, 0, 0⟩
  R := readIt
  out := fun _ _ => rfl
  inv := readIt_inv
  okz := trivial
  hz := fun w => by kernel_rfl
def MapIt (w : World) (b m : Nat) (g : Int → Option It) : Prop := MapG EIt 3 w b m g
section
variable {w w' : World} {b m : Nat} {g : Int → Option It}
theorem MapIt.lt (h : MapIt w b m g) : b < w.heap.size := MapG.lt h
theorem MapIt.same (h : MapIt w b m g) (he : w'.heap[b]? = w.heap[b]?) : MapIt w' b m g := MapG.same h he
theorem MapIt.kept (h : MapIt w b m g) (hb : Below w.heap.size w w') : MapIt w' b m g := MapG.kept h hb
theorem MapIt.new (w : World) : MapIt (w.alloc (.map #[] 0)) w.heap.size 0 (fun _ => none) := MapG.new w
theorem MapIt.ne_cell {a : Addr} {u : Value} (h : MapIt w b m g) (hk : w.cell? a = some u) : b ≠ a.block := MapG.ne_cell h hk
variable {ops : Array Oper} {rest : List Oper} {o : Oper} {a : Act} {Q : Exit → Act → World → Prop}
theorem wpList_lookIt (hg : o.guard = none) (mo x : Operand) (hop : o.op = Op.lookup 48 mo x true)
    (hm : a.eval mo = .map (some b)) (h : MapIt w b m g) (id : Int) (hi : I64 id) (hx : a.eval x = .int .i64 id)
    (hK : wpList Try.prog ops Q rest (a.put o.dst (.tuple #[itv ((g id).getD ⟨0, 0, 0, 0⟩), .bool (g id).isSome])) w) : wpList Try.prog ops Q (o :: rest) a w :=
  wpList_lookG2 (E := EIt) hg mo x 48 hop Try.underlying3 Try.underlying48 hm h id hi hx hK
theorem wpList_putIt (hg : o.guard = none) (hd : o.dst = none) (mo x vo : Operand) (hop : o.op = Op.mapUpdate 48 mo x vo)
    (hm : a.eval mo = .map (some b)) (h : MapIt w b m g) (hn : m ≤ 1000000) (id : Int) (hi : I64 id) (hx : a.eval x = .int .i64 id) (y : It) (hv : a.eval vo = itv y)
    (hK : ∀ w', MapIt w' b (if (g id).isSome then m else m + 1) (updG g id (some y)) → w.grownBy w' (some b) → wpList Try.prog ops Q rest a w') : wpList Try.prog ops Q (o :: rest) a w := by
  refine wpList_putG (E := EIt) hg mo x vo 48 hop Try.underlying3 Try.underlying48 hm h (by unfold maxLen; omega) id hi hx (show EIt.α from y) trivial hv fun w' h1 h2 => by
    rw [hd]
    exact hK w' h1 h2
theorem wpList_delIt (hg : o.guard = none) (hd : o.dst = none) (mo x : Operand) (hop : o.op = Op.call { callee := Callee.builtin Builtin.delete, args := #[mo, x], argTypes := #[48, 3] })
    (hm : a.eval mo = .map (some b)) (h : MapIt w b m g) (id : Int) (hi : I64 id) (hx : a.eval x = .int .i64 id)
    (hK : ∀ w', MapIt w' b (if (g id).isSome then m - 1 else m) (updG g id none) → w.grownBy w' (some b) → wpList Try.prog ops Q rest a w') : wpList Try.prog ops Q (o :: rest) a w := by
  refine wpList_delG (E := EIt) hg mo x 48 hop Try.underlying3 Try.underlying48 hm h id hi hx fun w' h1 h2 => by
    rw [hd]
    exact hK w' h1 h2
theorem wpList_lenIt (hg : o.guard = none) (mo : Operand) (hop : o.op = Op.call { callee := Callee.builtin Builtin.len, args := #[mo], argTypes := #[48] })
    (hm : a.eval mo = .map (some b)) (h : MapIt w b m g) (hK : wpList Try.prog ops Q rest (a.put o.dst (.int .i64 m)) w) : wpList Try.prog ops Q (o :: rest) a w :=
  wpList_lenG (E := EIt) hg mo 48 hop Try.underlying48 hm h hK
theorem MapIt.look (h : MapIt w b m g) {id : Int} (hi : I64 id) : (Instr.lookup 48 (.map (some b)) (.int .i64 id) true).run Try.prog w = .ok (.tuple #[itv ((g id).getD ⟨0, 0, 0, 0⟩), .bool (g id).isSome]) w :=
  MapG.look (E := EIt) h Try.underlying3 Try.underlying48 hi
theorem MapIt.look1 (h : MapIt w b m g) {id : Int} (hi : I64 id) : (Instr.lookup 48 (.map (some b)) (.int .i64 id) false).run Try.prog w = .ok (itv ((g id).getD ⟨0, 0, 0, 0⟩)) w :=
  MapG.look1 (E := EIt) h Try.underlying3 Try.underlying48 hi
end

/-! ### The clock -/
theorem kTick_any (n : Int) (w : World) : Calls Try.prog 16 #[.int .i64 n] w fun e w' => e = .returned (.int .i64 (tk n)) ∧ w = w' := by
  have H := Lib.hid (satClip_c n 0 2147483647 w)
  have e : iclip n 0 2147483647 = tk n := rfl
  rw [e] at H
  generalize tk n = t at *
  go_enter Try.func16, Try.ntmps16
  go_wp2_with (go_at_call 17; (with_reducible refine H.out.mono ?_); rintro e w1 ⟨rfl, rfl⟩)
  go_ret
  exact ⟨rfl, rfl⟩
theorem kTime_any {w : World} {p : Nat} {n : Int} {vs : List Value} (h : Blk w p (.int .i64 n :: vs)) : Calls Try.prog 19 #[ptr13 p] w fun e w' => e = .returned (.int .i64 n) ∧ w = w' := by
  have c0 := h.cell 0 rfl
  clear h
  go_enter Try.func19, Try.ntmps19
  go_wp2
  go_ret
  exact ⟨rfl, rfl⟩

set_option maxHeartbeats 1000000 in
theorem kReach_any {w : World} {p : Nat} {n : Int} {vs : List Value} (m : Int) (h : Blk w p (.int .i64 n :: vs)) : Calls Try.prog 23 #[ptr13 p, .int .i64 m] w fun e w' => e = .returned (.tuple #[]) ∧ ∃ w1, Below w.heap.size w w1 ∧ w' = w1.setCell ⟨p, 0, none⟩ (.int .i64 (max n (tk m))) := by
  have H := Lib.hid fun w => kTick_any m w
  generalize tk m = t at *
  obtain ⟨z, hz⟩ : ∃ z, max n t = z := ⟨_, rfl⟩
  have HB := Lib.hid h
  have c0 := h.cell 0 rfl
  rw [hz]
  clear h
  go_enter Try.func23, Try.ntmps23
  go_wp2
  refine wp_region_calmT 10 (by kernel_rfl) (by simp) (by kernel_rfl) fun M => ?_
  simp only [List.take_succ_cons, List.take_zero, List.drop_succ_cons, List.drop_zero]
  have m0 := fun n : In M.w => n.cell (M.cell c0)
  repeat (go_big_quiet_step ((go_at_call 16; with_reducible exact In.call_same (H.out _))))
  refine wpQuiet_nil ?_
  clear m0 M c0
  intro w2 hb2
  have hX := HB.out.kept hb2
  have d0 := hX.cell 0 rfl
  have z0 := hX.free 0 rfl
  have HB2 := Lib.hid hb2
  clear hX hb2
  go_wp2
  go_end0
  exact ⟨rfl, _, HB2.out, rfl⟩

set_option maxHeartbeats 1000000 in
theorem kStart_any {w : World} {p : Nat} {n r : Int} {vs : List Value} (x : It) (h : Blk w p (.int .i64 n :: .int .i64 r :: vs)) (hn : 0 ≤ n ∧ n ≤ 2147483647) (hr : 0 ≤ r ∧ r ≤ 1048576) (hx : okI n x) :
    Calls Try.prog 21 #[ptr13 p, itv x] w fun e w' => e = .returned (.int .i64 (keyA r x)) ∧ Below w.heap.size w w' := by
  obtain ⟨b1, b2⟩ := keyA_bd hn hr hx
  obtain ⟨x1, x2, x3, x4⟩ := x
  obtain ⟨⟨q1, q2⟩, _⟩ := hx
  simp only at b1 b2 q1 q2
  obtain ⟨m, hm⟩ : ∃ m, r * x3 = m := ⟨_, rfl⟩
  obtain ⟨k, hk⟩ : ∃ k, keyA r ⟨x1, x2, x3, x4⟩ = k := ⟨_, rfl⟩
  have hk2 : x2 - m = k := by rw [← hk, ← hm]; rfl
  rw [hk]
  rw [hm] at b1 b2
  have hw1 : IntKind.i64.wrap m = m := IntWalk.i64_in _ ⟨by omega, by omega⟩
  have hw2 : IntKind.i64.wrap k = k := IntWalk.i64_in _ ⟨by omega, by omega⟩
  have hX := Blk.new w [.int .i64 x1, .int .i64 x2, .int .i64 x3, .int .i64 x4] 28
  have HB := Lib.hid ((Below.refl w.heap.size w).alloc (Nat.le_refl _) (.cells #[.int .i64 x1, .int .i64 x2, .int .i64 x3, .int .i64 x4] 28))
  have hQ := h.kept HB.out
  have d1 := hX.cell 1 rfl
  have d2 := hX.cell 2 rfl
  have c1 := hQ.cell 1 rfl
  clear hX hQ h hk b1 b2 q1 q2 hn hr
  simp only [itv]
  go_enter Try.func21, Try.ntmps21
  go_wp2
  generalize w.alloc (.cells #[.int .i64 x1, .int .i64 x2, .int .i64 x3, .int .i64 x4] 28) = ww at *
  refine wp_region_calm0 (by kernel_rfl) (by kernel_rfl) fun M => ?_
  have m0 := fun n : In M.w => n.cell (M.cell d1)
  have m1 := fun n : In M.w => n.cell (M.cell d2)
  have m2 := fun n : In M.w => n.cell (M.cell c1)
  repeat (go_big_quiet_step (fail))
  refine wpQuiet_nil ?_
  intro w1 hb
  have HB1 := Lib.hid (HB.out.trans (hb.mono HB.out.size))
  clear m0 m1 m2 d1 d2 c1 hb M
  go_wp2
  go_ret
  exact ⟨rfl, HB1.out⟩

set_option maxHeartbeats 1000000 in
theorem kFull_any {w : World} {p : Nat} {n r : Int} {vs : List Value} (x : It) (h : Blk w p (.int .i64 n :: .int .i64 r :: vs)) :
    Calls Try.prog 32 #[ptr13 p, itv x] w fun e w' => e = .returned (.bool (ofA x n r == 1048575)) ∧ Below w.heap.size w w' := by
  have HO := Lib.hid fun w => aOf_any x n r w
  obtain ⟨x1, x2, x3, x4⟩ := x
  have hX := Blk.new w [.int .i64 x1, .int .i64 x2, .int .i64 x3, .int .i64 x4] 28
  have HB := Lib.hid ((Below.refl w.heap.size w).alloc (Nat.le_refl _) (.cells #[.int .i64 x1, .int .i64 x2, .int .i64 x3, .int .i64 x4] 28))
  have hQ := h.kept HB.out
  have d0 := hX.cell 0 rfl
  have d1 := hX.cell 1 rfl
  have d2 := hX.cell 2 rfl
  have d3 := hX.cell 3 rfl
  have c1 := hQ.cell 1 rfl
  have HQ := Lib.hid hQ
  generalize ofA ⟨x1, x2, x3, x4⟩ n r = o at *
  obtain ⟨t, ht⟩ : ∃ t, (o == 1048575) = t := ⟨_, rfl⟩
  rw [ht]
  clear hX hQ h
  simp only [itv] at HO ⊢
  go_enter Try.func32, Try.ntmps32
  go_wp2
  generalize w.alloc (.cells #[.int .i64 x1, .int .i64 x2, .int .i64 x3, .int .i64 x4] 28) = ww at *
  refine wp_region_calm0 (by kernel_rfl) (by kernel_rfl) fun M => ?_
  have m0 := fun n : In M.w => n.cell (M.cell d0)
  have m1 := fun n : In M.w => n.cell (M.cell d1)
  have m2 := fun n : In M.w => n.cell (M.cell d2)
  have m3 := fun n : In M.w => n.cell (M.cell d3)
  have m4 := fun n : In M.w => n.cell (M.cell c1)
  have HT := Lib.hid fun n : In M.w => kTime_any (HQ.out.kept (M.h.trans (n.h.mono M.h.size)))
  repeat (go_big_quiet_step (first
    | (go_at_call 19; with_reducible exact In.call_same (HT.out _))
    | (go_at_call 13; with_reducible exact In.call (HO.out _))))
  refine wpQuiet_nil ?_
  intro w1 hb
  have HB1 := Lib.hid (HB.out.trans (hb.mono HB.out.size))
  clear m0 m1 m2 m3 m4 d0 d1 d2 d3 c1 hb HT HQ M
  go_wp2
  go_ret
  exact ⟨rfl, HB1.out⟩
end Go.Proofs.Ytkhnkhkpjgemkaa
