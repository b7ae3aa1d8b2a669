/- Stage 13's program: Len, First, Pop, Has. -/
import Derived.Test.YtiaiappoodjpdaaHpI
namespace Go.Proofs.Ytiaiappoodjpdaa
open Go.RowKit

set_option maxHeartbeats 2000000 in
theorem hLen_any {F : Nat → Prop} {p : Nat} {S : List Th} (w : World) (h : HeapAt F w p S) (_hn : S.length ≤ 1000) :
    Calls Try.prog 15 #[ptr13 p] w fun e w' => e = .returned (.int .i64 (S.length : Int)) ∧ Below w.heap.size w w' := by
  obtain ⟨v, b, T, g, ⟨hr, hpos, hids⟩, hhp, hP, hS⟩ := h
  have p0 := hr.blk.cell 0 rfl
  obtain ⟨a, c, rfl⟩ := hr.own.form
  rw [← hP.length_eq]
  clear hr hpos hids hhp hP hS
  go_enter Try.func15, Try.ntmps15
  go_wp2
  go_ret
  exact ⟨rfl, Below.refl _ _⟩
theorem hLen_nil (w : World) : Calls Try.prog 15 #[.pointer none] w fun e w' => e = .returned (.int .i64 0) ∧ Below w.heap.size w w' := by
  go_enter Try.func15, Try.ntmps15
  go_wp2
  go_ret
  exact ⟨rfl, Below.refl _ _⟩

set_option maxHeartbeats 2000000 in
theorem hFirst_any {F : Nat → Prop} {p : Nat} {S : List Th} (w : World) (h : HeapAt F w p S) (hn : S.length ≤ 1000) :
    Calls Try.prog 12 #[ptr13 p] w fun e w' => e = .returned (.tuple #[.int .i64 (frsT S).1, .bool (frsT S).2]) ∧ Below w.heap.size w w' := by
  have HH := Lib.hid h
  obtain ⟨v, b, T, g, ⟨hr, hpos, hids⟩, hhp, hP, hS⟩ := h
  have hl := hP.length_eq
  have HL := Lib.hid (hLen_any w HH.out hn)
  by_cases h0 : T.length = 0
  · have : S = [] := List.eq_nil_of_length_eq_zero (by omega)
    subst this
    clear hr hpos hids hhp hP hS hl h0 HH
    go_enter Try.func12, Try.ntmps12
    go_wp2_with (go_at_call 15; (with_reducible refine HL.out.mono ?_); rintro e w1 ⟨rfl, hb⟩)
    exact bodyPost_ret (v := .tuple #[.int .i64 0, .bool false]) (by simp [results, Try.results12, go_sem]) rfl ⟨rfl, hb⟩
  · obtain ⟨t, hS2⟩ := first_is hhp hS hP (by omega)
    obtain ⟨gb, o, c, rfl, hlc, ⟨j0, j1, j2⟩, _⟩ := hr.own.th 0 (by omega)
    have p0 := hr.blk.cell 0 rfl
    have hfr : frsT S = ((tg T 0).id, true) := by rw [hS2]; rfl
    rw [hfr]
    have h9 : ((S.length : Int) == 0) = false := beq_noI (by omega)
    have hpos2 : (0 : Int) < (T.length : Int) := by omega
    rw [Nat.zero_mul, Nat.add_zero] at j0
    generalize (tg T 0).id = x at *
    generalize S.length = n at *
    clear hr hpos hids hhp hP hS hl h0 HH hS2 hfr j1 j2 hn
    go_enter Try.func12, Try.ntmps12
    go_wp2_with (go_at_call 15; (with_reducible refine HL.out.mono ?_); rintro e w1 ⟨rfl, hb⟩; have q0 := (World.cell?_of_block (a := ⟨p, 0, none⟩) (hb.block p (World.block_lt_of_cell? _ _ p0))).trans p0; have k0 := (World.cell?_of_block (a := ⟨gb, o, none⟩) (hb.block gb (World.block_lt_of_cell? _ _ j0))).trans j0; have HB := Lib.hid hb; clear hb p0 j0)
    exact bodyPost_ret (v := .tuple #[.int .i64 x, .bool true]) (by simp [results, Try.results12, go_sem]) rfl ⟨rfl, HB.out⟩
theorem hFirst_nil (w : World) : Calls Try.prog 12 #[.pointer none] w fun e w' => e = .returned (.tuple #[.int .i64 0, .bool false]) ∧ Below w.heap.size w w' := by
  go_enter Try.func12, Try.ntmps12
  go_wp2_with (go_at_call 15; (with_reducible refine (hLen_nil _).mono ?_); rintro e w1 ⟨rfl, hb⟩)
  exact bodyPost_ret (v := .tuple #[.int .i64 0, .bool false]) (by simp [results, Try.results12, go_sem]) rfl ⟨rfl, hb⟩

set_option maxHeartbeats 2000000 in
theorem hPop_any {F : Nat → Prop} {p : Nat} {S : List Th} (w : World) (h : HeapAt F w p S) (hn : S.length ≤ 1000) :
    Calls Try.prog 11 #[ptr13 p] w fun e w' => e = .returned (.tuple #[.int .i64 (frsT S).1, .bool (frsT S).2]) ∧ ∃ F', HeapAt F' w' p (S.drop 1) ∧ Mv F F' w w' := by
  have HF := Lib.hid (hFirst_any w h hn)
  have hid : I64 (frsT S).1 := by
    cases S with
    | nil => exact nat64 (n := 0) (by omega)
    | cons x t => exact h.i64 x List.mem_cons_self
  have hD := fun w1 (hb : Below w.heap.size w w1) => hDrop_any (frsT S).1 w1 (h.kept hb) hn hid
  have hd : dropT S (frsT S).1 = S.drop 1 ∧ hasT S (frsT S).1 = (frsT S).2 := by
    obtain ⟨v, b, T, g, ⟨hr, hpos, hids⟩, hhp, hP, hS⟩ := h
    cases S with
    | nil => exact ⟨rfl, rfl⟩
    | cons x t =>
      have hdst : Dst (x :: t) := hpos.dst.perm hP
      have hne : ∀ y ∈ t, y.id ≠ x.id := fun y hy e => by
        unfold Dst at hdst
        rw [List.map_cons, List.nodup_cons] at hdst
        exact hdst.1 (e ▸ List.mem_map_of_mem hy)
      refine ⟨?_, hasT_iff.2 ⟨x, List.mem_cons_self, rfl⟩⟩
      show dropT (x :: t) x.id = t
      unfold dropT
      rw [List.filter_cons_of_neg (by simp)]
      exact List.filter_eq_self.2 fun y hy => by simpa using hne y hy
  rw [hd.1, hd.2] at hD
  have HD := Lib.hid hD
  generalize (frsT S).1 = id at *
  generalize (frsT S).2 = t at *
  clear h hd hD hid
  go_enter Try.func11, Try.ntmps11
  go_wp2_with (first
    | (go_at_call 12; (with_reducible refine HF.out.mono ?_); rintro e w1 ⟨rfl, hb⟩; have HB := Lib.hid hb; clear hb)
    | (go_at_call 9; (with_reducible refine (HD.out _ HB.out).mono ?_); rintro e w2 ⟨rfl, F', h1, h2⟩))
  exact bodyPost_ret (v := .tuple #[.int .i64 id, .bool t]) (by simp [results, Try.results11, go_sem]) rfl ⟨rfl, F', h1, (Mv.of_below HB.out).trans h2⟩
theorem hPop_nil (w : World) : Calls Try.prog 11 #[.pointer none] w fun e w' => e = .returned (.tuple #[.int .i64 0, .bool false]) ∧ Below w.heap.size w w' := by
  go_enter Try.func11, Try.ntmps11
  go_wp2_with (first
    | (go_at_call 12; (with_reducible refine (hFirst_nil _).mono ?_); rintro e w1 ⟨rfl, hb⟩; have HB := Lib.hid hb; clear hb)
    | (go_at_call 9; (with_reducible refine (hDrop_nil _ _).mono ?_); rintro e w2 ⟨rfl, h1⟩))
  exact bodyPost_ret (v := .tuple #[.int .i64 0, .bool false]) (by simp [results, Try.results11, go_sem]) rfl ⟨rfl, HB.out.trans (h1.mono HB.out.size)⟩

theorem fnd_pos {T S : List Th} {g : Int → Option Nat} (h : Pos T g) (hp : T.Perm S) (id : Int) : fndT S id = match g id with | some i => (tg T i, true) | none => (⟨0, 0, 0⟩, false) := by
  unfold fndT
  cases hg : g id with
  | none =>
    have : S.find? (fun x => decide (x.id = id)) = none := List.find?_eq_none.2 fun y hy => by simpa using h.no hg y (hp.mem_iff.2 hy)
    rw [this]
  | some i =>
    obtain ⟨hi, e⟩ := (h id i).1 hg
    have hm : tg T i ∈ S := by rw [tg_get _ _ hi]; exact hp.mem_iff.1 (List.getElem_mem hi)
    cases hf : S.find? (fun x => decide (x.id = id)) with
    | none => exact absurd e (by simpa using List.find?_eq_none.1 hf _ hm)
    | some y =>
      have h1 := List.find?_some hf
      have h2 := List.mem_of_find?_eq_some hf
      obtain ⟨j, hj, ej⟩ := List.getElem_of_mem (hp.mem_iff.2 h2)
      have h3 := (h id j).2 ⟨hj, by rw [tg_get _ _ hj, ej]; simpa using h1⟩
      rw [hg] at h3
      cases h3
      show (y, true) = (tg T i, true)
      rw [tg_get _ _ hi, ej]

set_option maxHeartbeats 2000000 in
theorem hHas_any {F : Nat → Prop} {p : Nat} {S : List Th} (id : Int) (w : World) (h : HeapAt F w p S) (_hn : S.length ≤ 1000) (hx : I64 id) :
    Calls Try.prog 13 #[ptr13 p, .int .i64 id] w fun e w' => e = .returned (.tuple #[.int .i64 (fndT S id).1.key, .int .i64 (fndT S id).1.seq, .bool (fndT S id).2]) ∧ Below w.heap.size w w' := by
  obtain ⟨v, b, T, g, ⟨hr, hpos, hids⟩, hhp, hP, hS⟩ := h
  have hl := hP.length_eq
  rw [fnd_pos hpos hP]
  have HF := Lib.hid (hFind_any id w hr hx)
  cases hg : g id with
  | none =>
    rw [hg] at HF
    simp only [Option.getD_none, Option.isSome_none] at HF ⊢
    clear hr hpos hids hhp hP hS hl hg
    go_enter Try.func13, Try.ntmps13
    go_wp2_with (go_at_call 20; (with_reducible refine HF.out.mono ?_); rintro e w1 ⟨rfl, rfl⟩)
    exact bodyPost_ret (v := .tuple #[.int .i64 0, .int .i64 0, .bool false]) (by simp [results, Try.results13, go_sem]) rfl ⟨rfl, Below.refl _ _⟩
  | some i =>
    rw [hg] at HF
    simp only [Option.getD_some, Option.isSome_some] at HF ⊢
    obtain ⟨hi, he⟩ := (hpos id i).1 hg
    obtain ⟨gb, o, c, rfl, hlc, ⟨j0, j1, j2⟩, _⟩ := hr.own.th i hi
    have p0 := hr.blk.cell 0 rfl
    have I0 : (0 : Int) ≤ (i : Int) := by omega
    have I1 : (i : Int) < (T.length : Int) := by omega
    generalize (tg T i) = x at *
    obtain ⟨x1, x2, x3⟩ := x
    simp only at j0 j1 j2 ⊢
    clear hr hpos hids hhp hP hS hl hg he
    go_enter Try.func13, Try.ntmps13
    go_wp2_with (go_at_call 20; (with_reducible refine HF.out.mono ?_); rintro e w1 ⟨rfl, rfl⟩)
    refine wp_region_calm0 (by kernel_rfl) (by kernel_rfl) fun M => ?_
    have m0 := fun n : In M.w => n.cell (M.cell p0)
    have m1 := fun n : In M.w => n.cell (M.cell j1)
    have m2 := fun n : In M.w => n.cell (M.cell j2)
    repeat (go_big_quiet_step (fail))
    refine wpQuiet_nil ?_
    clear m0 m1 m2 M
    intro w2 hb2
    go_wp2
    exact bodyPost_ret (v := .tuple #[.int .i64 x2, .int .i64 x3, .bool true]) (by simp [results, Try.results13, go_sem]) rfl ⟨rfl, hb2⟩
end Go.Proofs.Ytiaiappoodjpdaa
