/- Stage 12's program: Parse. -/
import Derived.Test.YtfalohmdjnhikaaDoorSkillB
import Derived.Test.YtfalohmdjnhikaaDoorChain
import Derived.Test.YtfalohmdjnhikaaDoorChainO
import Derived.Lib.IndexLaws
namespace Go.Proofs.YtfalohmdjnhikaaDoor
open Go.RowKit

theorem index_in (s : List UInt8) (c : UInt8) : (decide ((0 : Int) ≤ Lib.indexByte s c)) = decide (c ∈ s) := by
  have hge := Lib.indexByte_ge s c
  by_cases h : Lib.indexByte s c = -1
  · rw [decide_eq_false (by omega), decide_eq_false]
    intro hm
    obtain ⟨k, hk, e⟩ := List.mem_iff_getElem.1 hm
    exact Lib.indexByte_none h k (by rw [List.getElem?_eq_getElem hk, e])
  · obtain ⟨o, ho⟩ : ∃ o : Nat, Lib.indexByte s c = (o : Int) := ⟨(Lib.indexByte s c).toNat, by omega⟩
    rw [decide_eq_true (by omega), decide_eq_true]
    exact List.mem_of_getElem? (Lib.indexByte_some ho).1
theorem one_of (n : Nat) (hn : n < 64) : ofS (inI [(n : Int)]) 64 = 2 ^ n := by
  have h : ofS (inI [(n : Int)]) 64 = ofS (fun _ => false) 64 ||| 2 ^ n := ofS_or hn fun j _ => by
    unfold inI
    rw [Bool.false_or]
    refine decide_eq_decide.2 ?_
    rw [List.mem_singleton]
    omega
  rw [h, ofS_none, Nat.zero_or]
/-- the set of those told whose signs stand in the text -/
def gotS (s : List UInt8) (d : List Nat) : Nat := ofS (fun n => decide (n ∈ d ∧ sg n ∈ s)) 64
theorem gotS_lt (s : List UInt8) (d : List Nat) : gotS s d < 2 ^ 64 := ofS_lt _ 64
theorem gotS_next (s : List UInt8) (d : List Nat) (n : Nat) (hn : n < 64) : gotS s (d ++ [n]) = if sg n ∈ s then gotS s d ||| 2 ^ n else gotS s d := by
  by_cases h : sg n ∈ s
  · rw [if_pos h]
    refine ofS_or hn fun j _ => ?_
    rw [← Bool.decide_or]
    refine decide_eq_decide.2 ?_
    rw [List.mem_append, List.mem_singleton]
    constructor
    · rintro ⟨h1 | h1, h2⟩
      · exact .inl ⟨h1, h2⟩
      · exact .inr h1
    · rintro (⟨h1, h2⟩ | h1)
      · exact ⟨.inl h1, h2⟩
      · subst h1; exact ⟨.inr rfl, h⟩
  · rw [if_neg h]
    refine ofS_congr 64 fun j _ => decide_eq_decide.2 ?_
    rw [List.mem_append, List.mem_singleton]
    constructor
    · rintro ⟨h1 | h1, h2⟩
      · exact ⟨h1, h2⟩
      · subst h1; exact absurd h2 h
    · rintro ⟨h1, h2⟩
      exact ⟨.inl h1, h2⟩
theorem gotS_none (s : List UInt8) : gotS s [] = 0 := by
  unfold gotS
  rw [ofS_congr (Q := fun _ => false) 64 (fun n _ => by simp), ofS_none]
theorem lsS_all : lsS 18446744073709551615 64 = List.range 64 := by decide +kernel
theorem gotS_all (s : List UInt8) : gotS s (lsS 18446744073709551615 64) = inS s := by
  rw [lsS_all]
  refine ofS_congr 64 fun n hn => decide_eq_decide.2 ?_
  rw [List.mem_range]
  exact ⟨fun h => h.2, fun h => ⟨hn, h⟩⟩

/-- a new row of one number -/
def lkOne (n : Int) : Lk := ⟨Nat, ⟨0⟩, fun b => .slice (some ⟨b, 0, none⟩) 1 1, fun b w => IntsAt w (.slice (some ⟨b, 0, none⟩) 1 1) [n]⟩
theorem lkOne_at {P : Program} {o : Oper} {a : Act} {W : World} {G : World → Prop} {n : Int} {t : TypeId} (he : ∀ k : In W, (execOp a.eval o).run P k.w = .ok (.value (.slice (some ⟨k.w.heap.size, 0, none⟩) 1 1)) (k.w.alloc (.cells #[.int .i64 n] t))) : (lkOne n).at P o a W G :=
  ⟨fun _ _ _ h hb => IntsAt.below h hb, fun k _ => by
    rw [he k]
    exact ⟨k.w.heap.size, rfl, IntsAt.lit k.w [n] t, (Below.refl W.heap.size _).alloc k.h.size _⟩⟩
theorem lkCall_at {P : Program} {o : Oper} {a : Act} {W : World} {G : World → Prop} {v : Value} {f : FuncId} {args : Array Value} (he : ∀ k : In W, (execOp a.eval o).run P k.w = .ok (.enter f args) k.w)
    (hc : ∀ k : In W, G k.w → Calls P f args k.w fun e w' => e = .returned v ∧ Below k.w.heap.size k.w w') : (Lk.val1 v).at P o a W G :=
  ⟨fun _ _ _ _ _ => trivial, fun k hk => by
    rw [he k]
    refine ⟨rfl, (hc k hk).mono ?_⟩
    rintro e w' ⟨rfl, hb⟩
    exact ⟨(), rfl, trivial, hb.mono k.h.size⟩⟩
/-- the text and the set, in their boxes -/
structure PBox (w : World) (b0 b1 : Nat) (S : ByteArray) (X : Nat) : Prop where
  txt : w.cell? ⟨b0, 0, none⟩ = some (.string S)
  set : w.heap[b1]? = some (.cells #[.int .u64 (X : Int)] 22)
  ne : b0 ≠ b1
theorem PBox.kept {w w1 : World} {b0 b1 : Nat} {S : ByteArray} {X : Nat} (h : PBox w b0 b1 S X) (hb : Below w.heap.size w w1) : PBox w1 b0 b1 S X :=
  ⟨(hb.cell (World.block_lt_of_cell? _ _ h.txt)).trans h.txt, (hb.block b1 (lt_of_block h.set)).trans h.set, h.ne⟩
theorem PBox.cell {w : World} {b0 b1 : Nat} {S : ByteArray} {X : Nat} (h : PBox w b0 b1 S X) : w.cell? ⟨b1, 0, none⟩ = some (.int .u64 (X : Int)) := by simp [World.cell?, h.set]
theorem PBox.free {w : World} {b0 b1 : Nat} {S : ByteArray} {X : Nat} (h : PBox w b0 b1 S X) : w.frozen? ⟨b1, 0, none⟩ = false := by simp [World.frozen?, h.set]
theorem PBox.put {w : World} {b0 b1 : Nat} {S : ByteArray} {X : Nat} (h : PBox w b0 b1 S X) (Y : Nat) : PBox (w.setCell ⟨b1, 0, none⟩ (.int .u64 (Y : Int))) b0 b1 S Y :=
  ⟨by have := h.txt; have hn := h.ne; go_simp, hset1 h.set _, h.ne⟩

set_option maxHeartbeats 4000000 in
set_option maxRecDepth 100000 in
theorem spick_any (n : Nat) (b0 b1 B : Nat) (s : List UInt8) (X : Nat) (w : World) (hn : n < 64) (hX : X < 2 ^ 64) (hT : Tabs w) (h : PBox w b0 b1 (bs12 s) X) (hB : B ≤ b1) (hBw : B ≤ w.heap.size) :
    Calls Tryd.prog 23 #[.int .i64 (n : Int), .pointer (some ⟨b0, 0, none⟩), .pointer (some ⟨b1, 0, none⟩)] w fun e w' => e = .returned (.tuple #[]) ∧ PBox w' b0 b1 (bs12 s) (if sg n ∈ s then X ||| 2 ^ n else X) ∧ Below B w w' := by
  have hix := index_in s (sg n)
  have IX := Lib.hid fun w1 => (Tryd.strings_IndexByte (bs12 s) ((sg n).toNat : Int) w1).mono fun _ _ h => (⟨h.1, h.2.symm⟩ : _ ∧ w1 = _)
  rw [show ((sg n).toNat : Int).toNat.toUInt8 = sg n by simp, show (bs12 s).data.toList = s by simp [bs12]] at IX
  have t0 := h.txt
  have t1 := hT.sgn n hn
  have n0 : (0 : Int) ≤ (n : Int) := by omega
  have n1 : (n : Int) < 64 := by omega
  generalize Lib.indexByte s (sg n) = ix at *
  have H := Lib.hid h
  by_cases hs : sg n ∈ s
  · rw [if_pos hs]
    rw [decide_eq_true hs, decide_eq_true_iff] at hix
    have hone := one_of n hn
    have hor := u64_or_nat X (2 ^ n) hX (Nat.pow_lt_pow_right (by decide) hn)
    have SO := Lib.hid fun v w1 h => sOf_any v [(n : Int)] w1 h (by simp)
    rw [hone] at SO
    generalize 2 ^ n = P at *
    generalize hY : X ||| P = Y at *
    generalize ((sg n).toNat : Int) = C at *
    generalize bs12 s = S at *
    clear hs hone hY h
    go_enter Tryd.func23, Tryd.ntmps23
    go_wp2
    refine wp_region_calm0 (by kernel_rfl) (by kernel_rfl) fun M => ?_
    have e0 := fun n : In M.w => n.cell (M.cell t0)
    have e1 := fun n : In M.w => n.cell (M.cell t1)
    repeat (go_big_quiet_step ((go_at_call 24; with_reducible exact In.call_same (IX.out _))))
    refine wpQuiet_nil ?_
    intro w1 hb
    have H1 := Lib.hid (H.out.kept hb)
    clear e0 e1 M
    have c1 := H1.out.cell
    have hB1 := Lib.hid (hb.mono hBw)
    clear hb
    go_wp2
    refine wp_region_chain 5 [.calm 2, .own (lkOne (n : Int)), .own (Lk.val1 (.int .u64 (P : Int))), .calm 1] [2, 3] rfl (by kernel_rfl) (by simp) (by kernel_rfl) (by kernel_rfl) ?_
    simp only [List.take_succ_cons, List.take_zero, List.drop_succ_cons, List.drop_zero]
    refine ⟨by simp, fun M => ?_⟩
    simp only [List.take_succ_cons, List.take_zero, List.drop_succ_cons, List.drop_zero]
    have e0 := fun n : In M.w => n.cell (M.cell c1)
    repeat (go_big_quiet_step (fail))
    refine wpQuiet_nil ?_
    clear e0 M
    refine ⟨rfl, lkOne_at (t := 3) (fun k => by simp [go_sem]), fun x1 A hA => ?_⟩
    simp [Act.put, lkOne] at hA
    subst hA
    refine ⟨rfl, lkCall_at (f := 10) (args := #[.slice (some ⟨x1, 0, none⟩) 1 1]) (fun k => by simp [go_sem]) (fun k hk => SO.out _ k.w hk), fun x2 A hA => ?_⟩
    simp [Act.put, Lk.val1] at hA
    subst hA
    refine ⟨by simp, fun M => ?_⟩
    simp only [List.take_succ_cons, List.take_zero, List.drop_succ_cons, List.drop_zero]
    repeat (go_big_quiet_step (fail))
    refine wpQuiet_nil ?_
    clear M
    refine ⟨rfl, fun w5 hb5 _ => ?_⟩
    have H5 := Lib.hid (H1.out.kept hb5)
    have c5 := H5.out.cell
    have z5 := H5.out.free
    have HB5 := Lib.hid (hB1.out.trans (hb5.mono (Nat.le_trans hBw hB1.out.size)))
    clear hb5
    go_wp2
    go_end0
    exact ⟨rfl, H5.out.put Y, HB5.out.setCell (p := ⟨b1, 0, none⟩) hB _⟩
  · rw [if_neg hs]
    rw [decide_eq_false hs, decide_eq_false_iff_not] at hix
    generalize ((sg n).toNat : Int) = C at *
    generalize bs12 s = S at *
    clear hs h
    go_enter Tryd.func23, Tryd.ntmps23
    go_wp2
    refine wp_region_calm0 (by kernel_rfl) (by kernel_rfl) fun M => ?_
    have e0 := fun n : In M.w => n.cell (M.cell t0)
    have e1 := fun n : In M.w => n.cell (M.cell t1)
    repeat (go_big_quiet_step ((go_at_call 24; with_reducible exact In.call_same (IX.out _))))
    refine wpQuiet_nil ?_
    intro w1 hb
    have H1 := Lib.hid (H.out.kept hb)
    clear e0 e1 M
    have HB1 := Lib.hid (hb.mono hBw)
    clear hb
    go_wp2
    go_end0
    exact ⟨rfl, H1.out, HB1.out⟩

set_option maxHeartbeats 4000000 in
set_option maxRecDepth 100000 in
theorem sParse_any (s : List UInt8) (W : World) (_hs : s.length ≤ 1000000) (hT : Tabs W) : Calls Tryd.prog 15 #[.string (bs12 s)] W fun e w' => e = .returned (.tuple #[.int .u64 ((parS s).1 : Int), .bool (parS s).2]) ∧ Below W.heap.size W w' := by
  have hP := parS_is s
  have hsz := bs12_size s
  by_cases h64 : 64 < s.length
  · rw [if_pos h64] at hP
    rw [hP]
    have l1 : (64 : Int) < (s.length : Int) := by omega
    obtain ⟨S, hS⟩ : ∃ S, bs12 s = S := ⟨_, rfl⟩
    rw [hS] at hsz ⊢
    clear hS hP
    go_enter Tryd.func15, Tryd.ntmps15
    go_wp2
    exact bodyPost_ret (v := .tuple #[.int .u64 0, .bool false]) (by simp [results, Tryd.results15, go_sem]) rfl ⟨rfl, (Below.refl _ W).alloc (Nat.le_refl _) _⟩
  · rw [if_neg h64] at hP
    have l1 : ¬ (64 : Int) < (s.length : Int) := by omega
    have b2 : PBox ((W.alloc (.cells #[.string (bs12 s)] 9)).alloc (.cells #[.int .u64 0] 22)) W.heap.size (W.heap.size + 1) (bs12 s) 0 := by
      refine ⟨by go_simp, ?_, by omega⟩
      have := heap_alloc_new (W.alloc (.cells #[.string (bs12 s)] 9)) (.cells #[.int .u64 0] 22)
      rwa [World.size_alloc] at this
    have hB2 : Below W.heap.size W ((W.alloc (.cells #[.string (bs12 s)] 9)).alloc (.cells #[.int .u64 0] 22)) := ((Below.refl _ W).alloc (Nat.le_refl _) _).alloc (by simp) _
    have hE := each_Parse 18446744073709551615 (.pointer (some ⟨W.heap.size, 0, none⟩)) (.pointer (some ⟨W.heap.size + 1, 0, none⟩)) (fun d w1 => PBox w1 W.heap.size (W.heap.size + 1) (bs12 s) (gotS s d) ∧ Below W.heap.size W w1) (by decide)
      (fun d w1 h => hT.below h.2)
      (fun d n w1 hn _ h => (spick_any n W.heap.size (W.heap.size + 1) W.heap.size s (gotS s d) w1 hn (gotS_lt s d) (hT.below h.2) h.1 (by omega) h.2.size).mono fun e w2 ⟨he, h1, h2⟩ =>
        ⟨he, by rw [gotS_next s d n hn]; exact h1, h.2.trans h2⟩)
      _ ⟨by rw [gotS_none]; exact b2, hB2⟩
    rw [gotS_all, show ((18446744073709551615 : Nat) : Int) = 18446744073709551615 from rfl] at hE
    have HTX := Lib.hid fun w1 h => sText_any (inS s) w1 (inS_lt s) h
    have HT := Lib.hid hT
    clear b2 hB2 hT
    by_cases ht : txtS (inS s) = s
    · rw [if_pos ht] at hP
      rw [hP]
      rw [ht] at HTX
      generalize inS s = x at *
      generalize bs12 s = S at *
      have HE := Lib.hid hE
      clear hP ht hE
      go_enter Tryd.func15, Tryd.ntmps15
      go_wp2_with (go_at_call 20; (with_reducible refine HE.out.mono ?_); rintro e w1 ⟨rfl, h1, h2⟩; have H1 := Lib.hid h1; have H2 := Lib.hid h2; have c0 := h1.txt; have c1 := h1.cell; clear h1 h2)
      refine wp_region_calm0 (by kernel_rfl) (by kernel_rfl) fun M => ?_
      have e0 := fun n : In M.w => n.cell (M.cell c0)
      have e1 := fun n : In M.w => n.cell (M.cell c1)
      have mT : Hid (∀ n : In M.w, Calls Tryd.prog 17 #[.int .u64 (x : Int)] n.w fun e w' => e = .returned (.string S) ∧ Below n.w.heap.size n.w w') := Lib.hid fun n => HTX.out _ ((HT.out.below H2.out).below (In.within n).h)
      repeat (go_big_quiet_step ((go_at_call 17; with_reducible exact In.call (mT.out _))))
      refine wpQuiet_nil ?_
      intro w3 hb
      have HB3 := Lib.hid (H2.out.trans (hb.mono H2.out.size))
      have c3 := (H1.out.kept hb).cell
      clear e0 e1 mT M hb c0 c1
      go_wp2
      exact bodyPost_ret (v := .tuple #[.int .u64 (x : Int), .bool true]) (by simp [results, Tryd.results15, go_sem]) rfl ⟨rfl, HB3.out⟩
    · rw [if_neg ht] at hP
      rw [hP]
      have hne : bs12 (txtS (inS s)) ≠ bs12 s := fun h => ht (by simpa [bs12] using h)
      generalize inS s = x at *
      generalize bs12 (txtS x) = T at *
      generalize bs12 s = S at *
      have hq2 : (T.toList == S.toList) = false := by
        rw [ByteArray.toList_eq, ByteArray.toList_eq]
        simp only [beq_eq_false_iff_ne, ne_eq]
        intro h
        exact hne (ByteArray.ext (Array.toList_inj.1 h))
      have HE := Lib.hid hE
      clear hP ht hE hne
      go_enter Tryd.func15, Tryd.ntmps15
      go_wp2_with (go_at_call 20; (with_reducible refine HE.out.mono ?_); rintro e w1 ⟨rfl, h1, h2⟩; have H1 := Lib.hid h1; have H2 := Lib.hid h2; have c0 := h1.txt; have c1 := h1.cell; clear h1 h2)
      refine wp_region_calm0 (by kernel_rfl) (by kernel_rfl) fun M => ?_
      have e0 := fun n : In M.w => n.cell (M.cell c0)
      have e1 := fun n : In M.w => n.cell (M.cell c1)
      have mT : Hid (∀ n : In M.w, Calls Tryd.prog 17 #[.int .u64 (x : Int)] n.w fun e w' => e = .returned (.string T) ∧ Below n.w.heap.size n.w w') := Lib.hid fun n => HTX.out _ ((HT.out.below H2.out).below (In.within n).h)
      repeat (go_big_quiet_step ((go_at_call 17; with_reducible exact In.call (mT.out _))))
      refine wpQuiet_nil ?_
      intro w3 hb
      have HB3 := Lib.hid (H2.out.trans (hb.mono H2.out.size))
      clear e0 e1 mT M hb c0 c1
      go_wp2
      exact bodyPost_ret (v := .tuple #[.int .u64 0, .bool false]) (by simp [results, Tryd.results15, go_sem]) rfl ⟨rfl, HB3.out⟩
end Go.Proofs.YtfalohmdjnhikaaDoor
