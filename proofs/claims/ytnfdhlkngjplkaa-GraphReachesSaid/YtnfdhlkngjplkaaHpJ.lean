/- Stage 13's program: Len, First, Pop, Has. -/
import Derived.Test.YtnfdhlkngjplkaaHpI
namespace Go.Proofs.Ytnfdhlkngjplkaa
open Go.RowKit

set_option maxHeartbeats 2000000 in
theorem hLen_any {F : Nat → Prop} {p : Nat} {S : List Th} (w : World) (h : HeapAt F w p S) (_hn : S.length ≤ 1000) :
    Calls Try.prog 53 #[ptr13 p] w fun e w' => e = .returned (.int .i64 (S.length : Int)) ∧ Below w.heap.size w w' := by
  obtain ⟨v, b, T, g, ⟨hr, hpos, hids⟩, hhp, hP, hS⟩ := h
  have p0 := hr.blk.cell 0 rfl
  obtain ⟨a, c, rfl⟩ := hr.own.form
  rw [← hP.length_eq]
  clear hr hpos hids hhp hP hS
  go_enter Try.func53, Try.ntmps53
  go_wp2
  go_ret
  exact ⟨rfl, Below.refl _ _⟩
theorem hLen_nil (w : World) : Calls Try.prog 53 #[.pointer none] w fun e w' => e = .returned (.int .i64 0) ∧ Below w.heap.size w w' := by
  go_enter Try.func53, Try.ntmps53
  go_wp2
  go_ret
  exact ⟨rfl, Below.refl _ _⟩

set_option maxHeartbeats 2000000 in
theorem hFirst_any {F : Nat → Prop} {p : Nat} {S : List Th} (w : World) (h : HeapAt F w p S) (hn : S.length ≤ 1000) :
    Calls Try.prog 38 #[ptr13 p] w fun e w' => e = .returned (.tuple #[.int .i64 (frsT S).1, .bool (frsT S).2]) ∧ Below w.heap.size w w' := by
  have HH := Lib.hid h
  obtain ⟨v, b, T, g, ⟨hr, hpos, hids⟩, hhp, hP, hS⟩ := h
  have hl := hP.length_eq
  have HL := Lib.hid (hLen_any w HH.out hn)
  by_cases h0 : T.length = 0
  · have : S = [] := List.eq_nil_of_length_eq_zero (by omega)
    subst this
    clear hr hpos hids hhp hP hS hl h0 HH
    go_enter Try.func38, Try.ntmps38
    go_wp2_with (go_at_call 53; (with_reducible refine HL.out.mono ?_); rintro e w1 ⟨rfl, hb⟩)
    exact bodyPost_ret (v := .tuple #[.int .i64 0, .bool false]) (by simp [results, Try.results38, go_sem]) rfl ⟨rfl, hb⟩
  · obtain ⟨t, hS2⟩ := first_is hhp hS hP (by omega)
    obtain ⟨gb, o, c, rfl, hlc, ⟨j0, j1, j2⟩, _⟩ := hr.own.th 0 (by omega)
    have p0 := hr.blk.cell 0 rfl
    have hfr : frsT S = ((tg T 0).id, true) := by rw [hS2]; rfl
    rw [hfr]
    have h9 : ((S.length : Int) == 0) = false := beq_noI (by omega)
    have hpos2 : (0 : Int) < (T.length : Int) := by omega
    rw [Nat.zero_mul, Nat.add_zero] at j0
    generalize (tg T 0).id = x at *
    generalize S.length = n at *
    clear hr hpos hids hhp hP hS hl h0 HH hS2 hfr j1 j2 hn
    go_enter Try.func38, Try.ntmps38
    go_wp2_with (go_at_call 53; (with_reducible refine HL.out.mono ?_); rintro e w1 ⟨rfl, hb⟩; have q0 := (World.cell?_of_block (a := ⟨p, 0, none⟩) (hb.block p (World.block_lt_of_cell? _ _ p0))).trans p0; have k0 := (World.cell?_of_block (a := ⟨gb, o, none⟩) (hb.block gb (World.block_lt_of_cell? _ _ j0))).trans j0; have HB := Lib.hid hb; clear hb p0 j0)
    exact bodyPost_ret (v := .tuple #[.int .i64 x, .bool true]) (by simp [results, Try.results38, go_sem]) rfl ⟨rfl, HB.out⟩
theorem hFirst_nil (w : World) : Calls Try.prog 38 #[.pointer none] w fun e w' => e = .returned (.tuple #[.int .i64 0, .bool false]) ∧ Below w.heap.size w w' := by
  go_enter Try.func38, Try.ntmps38
  go_wp2_with (go_at_call 53; (with_reducible refine (hLen_nil _).mono ?_); rintro e w1 ⟨rfl, hb⟩)
  exact bodyPost_ret (v := .tuple #[.int .i64 0, .bool false]) (by simp [results, Try.results38, go_sem]) rfl ⟨rfl, hb⟩

set_option maxHeartbeats 2000000 in
theorem hPop_any {F : Nat → Prop} {p : Nat} {S : List Th} (w : World) (h : HeapAt F w p S) (hn : S.length ≤ 1000) :
    Calls Try.prog 33 #[ptr13 p] w fun e w' => e = .returned (.tuple #[.int .i64 (frsT S).1, .bool (frsT S).2]) ∧ ∃ F', HeapAt F' w' p (S.drop 1) ∧ Mv F F' w w' := by
  have HF := Lib.hid (hFirst_any w h hn)
  have hid : I64 (frsT S).1 := by
    cases S with
    | nil => exact nat64 (n := 0) (by omega)
    | cons x t => exact h.i64 x List.mem_cons_self
  have hD := fun w1 (hb : Below w.heap.size w w1) => hDrop_any (frsT S).1 w1 (h.kept hb) hn hid
  have hd : dropT S (frsT S).1 = S.drop 1 ∧ hasT S (frsT S).1 = (frsT S).2 := by
    obtain ⟨v, b, T, g, ⟨hr, hpos, hids⟩, hhp, hP, hS⟩ := h
    cases S with
    | nil => exact ⟨rfl, rfl⟩
    | cons x t =>
      have hdst : Dst (x :: t) := hpos.dst.perm hP
      have hne : ∀ y ∈ t, y.id ≠ x.id := fun y hy e => by
        unfold Dst at hdst
        rw [List.map_cons, List.nodup_cons] at hdst
        exact hdst.1 (e ▸ List.mem_map_of_mem hy)
      refine ⟨?_, hasT_iff.2 ⟨x, List.mem_cons_self, rfl⟩⟩
      show dropT (x :: t) x.id = t
      unfold dropT
      rw [List.filter_cons_of_neg (by simp)]
      exact List.filter_eq_self.2 fun y hy => by simpa using hne y hy
  rw [hd.1, hd.2] at hD
  have HD := Lib.hid hD
  generalize (frsT S).1 = id at *
  generalize (frsT S).2 = t at *
  clear h hd hD hid
  go_enter Try.func33, Try.ntmps33
  go_wp2_with (first
    | (go_at_call 38; (with_reducible refine HF.out.mono ?_); rintro e w1 ⟨rfl, hb⟩; have HB := Lib.hid hb; clear hb)
    | (go_at_call 39; (with_reducible refine (HD.out _ HB.out).mono ?_); rintro e w2 ⟨rfl, F', h1, h2⟩))
  exact bodyPost_ret (v := .tuple #[.int .i64 id, .bool t]) (by simp [results, Try.results33, go_sem]) rfl ⟨rfl, F', h1, (Mv.of_below HB.out).trans h2⟩
theorem hPop_nil (w : World) : Calls Try.prog 33 #[.pointer none] w fun e w' => e = .returned (.tuple #[.int .i64 0, .bool false]) ∧ Below w.heap.size w w' := by
  go_enter Try.func33, Try.ntmps33
  go_wp2_with (first
    | (go_at_call 38; (with_reducible refine (hFirst_nil _).mono ?_); rintro e w1 ⟨rfl, hb⟩; have HB := Lib.hid hb; clear hb)
    | (go_at_call 39; (with_reducible refine (hDrop_nil _ _).mono ?_); rintro e w2 ⟨rfl, h1⟩))
  exact bodyPost_ret (v := .tuple #[.int .i64 0, .bool false]) (by simp [results, Try.results33, go_sem]) rfl ⟨rfl, HB.out.trans (h1.mono HB.out.size)⟩

theorem fnd_pos {T S : List Th} {g : Int → Option Nat} (h : Pos T g) (hp : T.Perm S) (id : Int) : fndT S id = match g id with | some i => (tg T i, true) | none => (⟨0, 0, 0⟩, false) := by
  unfold fndT
  cases hg : g id with
  | none =>
    have : S.find? (fun x => decide (x.id = id)) = none := List.find?_eq_none.2 fun y hy => by simpa using h.no hg y (hp.mem_iff.2 hy)
    rw [this]
  | some i =>
    obtain ⟨hi, e⟩ := (h id i).1 hg
    have hm : tg T i ∈ S := by rw [tg_get _ _ hi]; exact hp.mem_iff.1 (List.getElem_mem hi)
    cases hf : S.find? (fun x => decide (x.id = id)) with
    | none => exact absurd e (by simpa using List.find?_eq_none.1 hf _ hm)
    | some y =>
      have h1 := List.find?_some hf
      have h2 := List.mem_of_find?_eq_some hf
      obtain ⟨j, hj, ej⟩ := List.getElem_of_mem (hp.mem_iff.2 h2)
      have h3 := (h id j).2 ⟨hj, by rw [tg_get _ _ hj, ej]; simpa using h1⟩
      rw [hg] at h3
      cases h3
      show (y, true) = (tg T i, true)
      rw [tg_get _ _ hi, ej]

end Go.Proofs.Ytnfdhlkngjplkaa
