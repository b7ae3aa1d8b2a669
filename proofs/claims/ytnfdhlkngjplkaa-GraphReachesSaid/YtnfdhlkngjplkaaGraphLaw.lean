/- The laws GraphOrders, GraphReaches, over the program's contracts as one structure. -/
import Derived.Test.YtnfdhlkngjplkaaGraphRefC
import Derived.Test.YtnfdhlkngjplkaaGraphRefD
namespace Go.Proofs.Ytnfdhlkngjplkaa
open Go.RowKit

/-- what the program's functions must keep -/
structure GraphProg : Prop where
  order : ∀ (va vb : Value) (l : List Int) (arcs : List Arc16) (w : World), IntsAt w va l → ArcsAt w vb arcs → l.length ≤ 30 → arcs.length ≤ 60 → B64 l → B64a arcs →
    Calls Try.prog 8 #[va, vb] w fun e w' => ∃ v, e = .returned (.tuple #[v, .bool (decide ((ordL l arcs).length = (setL l).length))]) ∧ IntsAt w' v (ordL l arcs) ∧ Below w.heap.size w w'
  left : ∀ (va vb : Value) (l : List Int) (arcs : List Arc16) (w : World), IntsAt w va l → ArcsAt w vb arcs → l.length ≤ 30 → arcs.length ≤ 60 → B64 l → B64a arcs →
    Calls Try.prog 11 #[va, vb] w fun e w' => ∃ v, e = .returned v ∧ IntsAt w' v (leftL l arcs) ∧ Below w.heap.size w w'
  reach : ∀ (va vb vf : Value) (l : List Int) (arcs : List Arc16) (frm : List Int) (w : World), IntsAt w va l → ArcsAt w vb arcs → IntsAt w vf frm → l.length ≤ 30 → arcs.length ≤ 60 → frm.length ≤ 30 → B64 l → B64a arcs → B64 frm →
    Calls Try.prog 13 #[va, vb, vf] w fun e w' => ∃ v, e = .returned v ∧ IntsAt w' v (reachL l arcs frm) ∧ Below w.heap.size w w'
  levels : ∀ (va vb : Value) (l : List Int) (arcs : List Arc16) (w : World), IntsAt w va l → ArcsAt w vb arcs → l.length ≤ 30 → arcs.length ≤ 60 → B64 l → B64a arcs →
    Calls Try.prog 15 #[va, vb] w fun e w' => ∃ v, e = .returned v ∧ IntsAt w' v (levL l arcs) ∧ Below w.heap.size w w'

theorem arcsLit (w : World) (l : List Arc16) (t : TypeId) : ArcsAt (w.alloc (.cells (flats csArc l).toArray t)) (.slice (some ⟨w.heap.size, 0, none⟩) l.length l.length) l := by
  refine ⟨_, l.length, rfl, Nat.le_refl _, fun _ => ⟨w.heap.size, 0, rfl, by simp, fun j x hj i u hu => ?_⟩⟩
  have h := flats_at csArc_len l j x hj i u hu
  have hh : (w.alloc (.cells (flats csArc l).toArray t)).heap[w.heap.size]? = some (.cells (flats csArc l).toArray t) := heap_alloc_new w _
  unfold World.cell?
  simp only [hh, Nat.zero_add]
  simpa using h

set_option maxHeartbeats 4000000 in
set_option maxRecDepth 100000 in
theorem gAlive_any (C : GraphProg) (w : World) : Calls Try.prog 7 #[] w fun e w' => e = .returned (.bool true) ∧ Below w.heap.size w w' := by
  have bl : B64 [1, 2, 3] := by simp [B64]
  have ba : B64a [⟨3, 1⟩, ⟨1, 2⟩] := by simp [B64a]
  have e1 : ordL [1, 2, 3] [⟨3, 1⟩, ⟨1, 2⟩] = [3, 1, 2] := by decide
  have e2 : levL [1, 2, 3] [⟨3, 1⟩, ⟨1, 2⟩] = [1, 2, 0] := by decide
  have e3 : reachL [1, 2, 3] [⟨3, 1⟩, ⟨1, 2⟩] [1] = [1, 2] := by decide
  have e4 : leftL [1, 2, 3] [⟨3, 1⟩, ⟨1, 2⟩] = [] := by decide
  have e5 : setL [1, 2, 3] = [1, 2, 3] := by decide
  have c1 := fun va vb w h1 h2 => C.order va vb [1, 2, 3] [⟨3, 1⟩, ⟨1, 2⟩] w h1 h2 (by simp) (by simp) bl ba
  have c2 := fun va vb w h1 h2 => C.levels va vb [1, 2, 3] [⟨3, 1⟩, ⟨1, 2⟩] w h1 h2 (by simp) (by simp) bl ba
  have c3 := fun va vb vf w h1 h2 h3 => C.reach va vb vf [1, 2, 3] [⟨3, 1⟩, ⟨1, 2⟩] [1] w h1 h2 h3 (by simp) (by simp) (by simp) bl ba (by simp [B64])
  have c4 := fun va vb w h1 h2 => C.left va vb [1, 2, 3] [⟨3, 1⟩, ⟨1, 2⟩] w h1 h2 (by simp) (by simp) bl ba
  rw [e1, e5] at c1
  rw [e2] at c2
  rw [e3] at c3
  rw [e4] at c4
  simp only [List.length_cons, List.length_nil, decide_true] at c1
  have ci := fun va vb (l : List Int) w (ha : IntsAt w va l) (hb : IntsAt w vb l) (hl : l.length ≤ 1000) => refInts_any va vb l l w ha hb (by omega) (by omega)
  simp only [decide_true] at ci
  have lit3 : ∀ (w : World) (a b c : Int), IntsAt (w.alloc (.cells #[.int .i64 a, .int .i64 b, .int .i64 c] 3)) (.slice (some ⟨w.heap.size, 0, none⟩) 3 3) [a, b, c] := fun w a b c => IntsAt.lit w [a, b, c] 3
  have lit2 : ∀ (w : World) (a b : Int), IntsAt (w.alloc (.cells #[.int .i64 a, .int .i64 b] 3)) (.slice (some ⟨w.heap.size, 0, none⟩) 2 2) [a, b] := fun w a b => IntsAt.lit w [a, b] 3
  have lit1 : ∀ (w : World) (a : Int), IntsAt (w.alloc (.cells #[.int .i64 a] 3)) (.slice (some ⟨w.heap.size, 0, none⟩) 1 1) [a] := fun w a => IntsAt.lit w [a] 3
  have harc := fun (w : World) (l : List Arc16) => arcsLit w l 34
  have C1 := Lib.hid c1
  have C2 := Lib.hid c2
  have C3 := Lib.hid c3
  have C4 := Lib.hid c4
  have CI1 := Lib.hid fun va vb w ha hb => ci va vb [3, 1, 2] w ha hb (by simp)
  have CI2 := Lib.hid fun va vb w ha hb => ci va vb [1, 2, 0] w ha hb (by simp)
  have CI3 := Lib.hid fun va vb w ha hb => ci va vb [1, 2] w ha hb (by simp)
  have L3 := Lib.hid lit3
  have L2 := Lib.hid lit2
  have L1 := Lib.hid lit1
  have HA := Lib.hid harc
  clear e1 e2 e3 e4 e5 c1 c2 c3 c4 ci lit3 lit2 lit1 harc
  go_enter Try.func7, Try.ntmps7
  go_upto_region 2 with (fail)
  have hA : IntsAt ((w.alloc (.cells #[.int .i64 1, .int .i64 2, .int .i64 3] 3)).alloc (.cells #[.int .i64 3, .int .i64 1, .int .i64 1, .int .i64 2] 34)) (.slice (some ⟨w.heap.size, 0, none⟩) 3 3) [1, 2, 3] := IntsAt.below (L3.out w 1 2 3) ((Below.refl _ _).alloc (Nat.le_refl _) _)
  have hB : ArcsAt ((w.alloc (.cells #[.int .i64 1, .int .i64 2, .int .i64 3] 3)).alloc (.cells #[.int .i64 3, .int .i64 1, .int .i64 1, .int .i64 2] 34)) (.slice (some ⟨w.heap.size + 1, 0, none⟩) 2 2) [⟨3, 1⟩, ⟨1, 2⟩] := by
    have := HA.out (w.alloc (.cells #[.int .i64 1, .int .i64 2, .int .i64 3] 3)) [⟨3, 1⟩, ⟨1, 2⟩]
    rw [show (w.alloc (.cells #[.int .i64 1, .int .i64 2, .int .i64 3] 3)).heap.size = w.heap.size + 1 by simp] at this
    exact this
  have hW : Below w.heap.size w ((w.alloc (.cells #[.int .i64 1, .int .i64 2, .int .i64 3] 3)).alloc (.cells #[.int .i64 3, .int .i64 1, .int .i64 1, .int .i64 2] 34)) := ((Below.refl _ _).alloc (Nat.le_refl _) _).alloc (by simp) _
  generalize (w.alloc (.cells #[.int .i64 1, .int .i64 2, .int .i64 3] 3)).alloc (.cells #[.int .i64 3, .int .i64 1, .int .i64 1, .int .i64 2] 34) = W2 at *
  have IA := Lib.hid fun w' (h : Below W2.heap.size W2 w') => IntsAt.below hA h
  have IB := Lib.hid fun w' (h : Below W2.heap.size W2 w') => RowsAt.kept hB h
  have BB := Lib.hid (Below.refl W2.heap.size W2)
  have HW := Lib.hid hW
  clear hA hB hW HA
  go_wp2_with (first
    | (go_at_call 8; (with_reducible refine (C1.out _ _ _ (IA.out _ BB.out) (IB.out _ BB.out)).mono ?_); rintro e w3 ⟨v3, rfl, h, hb⟩; have X3 := Lib.hid h; replace BB := Lib.hid (BB.out.trans (hb.mono BB.out.size)); obtain ⟨a3, c3, e⟩ := h.form; rw [show ([3, 1, 2] : List Int).length = 3 from rfl] at e; subst e; clear h hb)
    | (go_at_call 10; (with_reducible refine (CI1.out _ _ _ (X3.out.below ((Below.refl _ _).alloc (Nat.le_refl _) _)) (L3.out _ 3 1 2)).mono ?_); rintro e w4 ⟨rfl, hb⟩; replace BB := Lib.hid ((BB.out.alloc BB.out.size _).trans (hb.mono (Nat.le_trans BB.out.size (by simp)))); clear hb X3)
    | (go_at_call 15; (with_reducible refine (C2.out _ _ _ (IA.out _ BB.out) (IB.out _ BB.out)).mono ?_); rintro e w5 ⟨v5, rfl, h, hb⟩; have X5 := Lib.hid h; replace BB := Lib.hid (BB.out.trans (hb.mono BB.out.size)); obtain ⟨a5, c5, e⟩ := h.form; rw [show ([1, 2, 0] : List Int).length = 3 from rfl] at e; subst e; clear h hb)
    | (go_at_call 10; (with_reducible refine (CI2.out _ _ _ (X5.out.below ((Below.refl _ _).alloc (Nat.le_refl _) _)) (L3.out _ 1 2 0)).mono ?_); rintro e w6 ⟨rfl, hb⟩; replace BB := Lib.hid ((BB.out.alloc BB.out.size _).trans (hb.mono (Nat.le_trans BB.out.size (by simp)))); clear hb X5)
    | (go_at_call 13; (with_reducible refine (C3.out _ _ _ _ (IA.out _ (BB.out.alloc BB.out.size _)) (IB.out _ (BB.out.alloc BB.out.size _)) (L1.out _ 1)).mono ?_); rintro e w7 ⟨v7, rfl, h, hb⟩; have X7 := Lib.hid h; replace BB := Lib.hid ((BB.out.alloc BB.out.size _).trans (hb.mono (Nat.le_trans BB.out.size (by simp)))); obtain ⟨a7, c7, e⟩ := h.form; rw [show ([1, 2] : List Int).length = 2 from rfl] at e; subst e; clear h hb)
    | (go_at_call 10; (with_reducible refine (CI3.out _ _ _ (X7.out.below ((Below.refl _ _).alloc (Nat.le_refl _) _)) (L2.out _ 1 2)).mono ?_); rintro e w8 ⟨rfl, hb⟩; replace BB := Lib.hid ((BB.out.alloc BB.out.size _).trans (hb.mono (Nat.le_trans BB.out.size (by simp)))); clear hb X7)
    | (go_at_call 11; (with_reducible refine (C4.out _ _ _ (IA.out _ BB.out) (IB.out _ BB.out)).mono ?_); rintro e w9 ⟨v9, rfl, h, hb⟩; replace BB := Lib.hid (BB.out.trans (hb.mono BB.out.size)); obtain ⟨a9, c9, e⟩ := h.form; rw [show ([] : List Int).length = 0 from rfl] at e; subst e; clear h hb))
  go_ret
  exact ⟨rfl, HW.out.trans (BB.out.mono HW.out.size)⟩

set_option maxHeartbeats 4000000 in
set_option maxRecDepth 100000 in
theorem refFew_any (a b : Option Addr) (n m c d : Nat) (w : World) : Calls Try.prog 6 #[.slice a n c, .slice b m d] w fun e w' => e = .returned (.bool (decide (n ≤ 30 ∧ m ≤ 60))) ∧ w = w' := by
  by_cases h1 : n ≤ 30
  · have g1 : (n : Int) ≤ 30 := by omega
    by_cases h2 : m ≤ 60
    · have g2 : (m : Int) ≤ 60 := by omega
      rw [decide_eq_true ⟨h1, h2⟩]
      clear h1 h2
      go_enter Try.func6, Try.ntmps6
      go_wp2
      go_ret
      exact ⟨by simp, rfl⟩
    · have g2 : ¬ (m : Int) ≤ 60 := by omega
      rw [decide_eq_false (fun h => h2 h.2)]
      clear h1 h2
      go_enter Try.func6, Try.ntmps6
      go_wp2
      go_ret
      exact ⟨by simp, rfl⟩
  · have g1 : ¬ (n : Int) ≤ 30 := by omega
    rw [decide_eq_false (fun h => h1 h.1)]
    clear h1
    go_enter Try.func6, Try.ntmps6
    go_wp2
    go_ret
    exact ⟨by simp, rfl⟩

set_option maxHeartbeats 8000000 in
set_option maxRecDepth 100000 in
theorem graphOrders_any (C : GraphProg) (va vb : Value) (l : List Int) (arcs : List Arc16) (w : World) (ha : IntsAt w va l) (hb : ArcsAt w vb arcs) (bl : B64 l) (ba : B64a arcs) :
    Calls Try.prog 3 #[va, vb] w fun e w' => e = .returned (.bool true) ∧ Below w.heap.size w w' := by
  have HAL := Lib.hid fun w => gAlive_any C w
  have IA := Lib.hid fun w' (h : Below w.heap.size w w') => IntsAt.below ha h
  have IB := Lib.hid fun w' (h : Below w.heap.size w w') => RowsAt.kept hb h
  obtain ⟨a0, c0, rfl⟩ := IntsAt.form ha
  obtain ⟨b0, d0, rfl⟩ := RowsAt.form hb
  have gf := fun w => refFew_any a0 b0 l.length arcs.length c0 d0 w
  by_cases hfew : l.length ≤ 30 ∧ arcs.length ≤ 60
  · rw [decide_eq_true hfew] at gf
    obtain ⟨hl1, hl2⟩ := hfew
    have GF := Lib.hid gf
    have P1 := Lib.hid fun w' (h : Below w.heap.size w w') => C.order _ _ l arcs w' (IA.out w' h) (IB.out w' h) hl1 hl2 bl ba
    have P2 := Lib.hid fun w' (h : Below w.heap.size w w') => C.left _ _ l arcs w' (IA.out w' h) (IB.out w' h) hl1 hl2 bl ba
    have R1 := Lib.hid fun w' (h : Below w.heap.size w w') => refOrder_any _ _ l arcs w' (IA.out w' h) (IB.out w' h) (by omega) (by omega)
    have R2 := Lib.hid fun w' (h : Below w.heap.size w w') => refLeft_any _ _ l arcs w' (IA.out w' h) (IB.out w' h) (by omega) (by omega)
    have hol : (ordL l arcs).length ≤ (setL l).length := (ordL_inv l arcs).1.ti.len
    have hll := left_len l arcs
    have hsl := setL_le l
    generalize decide ((ordL l arcs).length = (setL l).length) = t at *
    generalize ordL l arcs = O at *
    generalize leftL l arcs = L at *
    have CI1 := Lib.hid fun va vb w (ha : IntsAt w va O) (hb : IntsAt w vb O) => refInts_any va vb O O w ha hb (by omega) (by omega)
    have CI2 := Lib.hid fun va vb w (ha : IntsAt w va L) (hb : IntsAt w vb L) => refInts_any va vb L L w ha hb (by omega) (by omega)
    simp only [decide_true] at CI1 CI2
    have BB := Lib.hid (Below.refl w.heap.size w)
    clear ha hb gf hl1 hl2 hol hll hsl
    go_enter Try.func3, Try.ntmps3
    go_wp2_with (first
      | (go_at_call 6; (with_reducible refine (GF.out _).mono ?_); rintro e w0 ⟨rfl, rfl⟩)
      | (go_at_call 8; (with_reducible refine (P1.out _ BB.out).mono ?_); rintro e w1 ⟨v1, rfl, h, hb⟩; replace BB := Lib.hid (BB.out.trans (hb.mono BB.out.size)); obtain ⟨a1, c1, e⟩ := h.form; subst e; have X1 := Lib.hid h; clear h hb)
      | (go_at_call 9; (with_reducible refine (R1.out _ BB.out).mono ?_); rintro e w2 ⟨v2, rfl, h, hb⟩; replace BB := Lib.hid (BB.out.trans (hb.mono BB.out.size)); have h := OwnI.ints h; obtain ⟨a2, c2, e⟩ := h.form; subst e; have X2 := Lib.hid h; replace X1 := Lib.hid (X1.out.below hb); clear h hb)
      | (go_at_call 10; (with_reducible refine (CI1.out _ _ _ X1.out X2.out).mono ?_); rintro e w3 ⟨rfl, hb⟩; replace BB := Lib.hid (BB.out.trans (hb.mono BB.out.size)); clear hb X1 X2)
      | (go_at_call 11; (with_reducible refine (P2.out _ BB.out).mono ?_); rintro e w4 ⟨v4, rfl, h, hb⟩; replace BB := Lib.hid (BB.out.trans (hb.mono BB.out.size)); obtain ⟨a4, c4, e⟩ := h.form; subst e; have X4 := Lib.hid h; clear h hb)
      | (go_at_call 12; (with_reducible refine (R2.out _ BB.out).mono ?_); rintro e w5 ⟨v5, rfl, h, hb⟩; replace BB := Lib.hid (BB.out.trans (hb.mono BB.out.size)); have h := OwnI.ints h; obtain ⟨a5, c5, e⟩ := h.form; subst e; have X5 := Lib.hid h; replace X4 := Lib.hid (X4.out.below hb); clear h hb)
      | (go_at_call 10; (with_reducible refine (CI2.out _ _ _ X4.out X5.out).mono ?_); rintro e w6 ⟨rfl, hb⟩; replace BB := Lib.hid (BB.out.trans (hb.mono BB.out.size)); clear hb X4 X5)
      | (go_at_call 7; (with_reducible refine (HAL.out _).mono ?_); rintro e w7 ⟨rfl, hb⟩; replace BB := Lib.hid (BB.out.trans (hb.mono BB.out.size)); clear hb))
    go_ret
    exact ⟨rfl, BB.out⟩
  · rw [decide_eq_false hfew] at gf
    have GF := Lib.hid gf
    clear ha hb gf hfew
    go_enter Try.func3, Try.ntmps3
    go_wp2_with (first
      | (go_at_call 6; (with_reducible refine (GF.out _).mono ?_); rintro e w0 ⟨rfl, rfl⟩)
      | (go_at_call 7; (with_reducible refine (HAL.out _).mono ?_); rintro e w7 ⟨rfl, hb⟩))
    go_ret
    exact ⟨rfl, hb⟩

set_option maxHeartbeats 8000000 in
set_option maxRecDepth 100000 in
theorem graphReaches_any (C : GraphProg) (va vb vf : Value) (l : List Int) (arcs : List Arc16) (frm : List Int) (w : World) (ha : IntsAt w va l) (hb : ArcsAt w vb arcs) (hf : IntsAt w vf frm) (bl : B64 l) (ba : B64a arcs) (bf : B64 frm) :
    Calls Try.prog 4 #[va, vb, vf] w fun e w' => e = .returned (.bool true) ∧ Below w.heap.size w w' := by
  have HAL := Lib.hid fun w => gAlive_any C w
  have IA := Lib.hid fun w' (h : Below w.heap.size w w') => IntsAt.below ha h
  have IB := Lib.hid fun w' (h : Below w.heap.size w w') => RowsAt.kept hb h
  have IF := Lib.hid fun w' (h : Below w.heap.size w w') => IntsAt.below hf h
  obtain ⟨a0, c0, rfl⟩ := IntsAt.form ha
  obtain ⟨b0, d0, rfl⟩ := RowsAt.form hb
  obtain ⟨f0, g0, rfl⟩ := IntsAt.form hf
  have gf := fun w => refFew_any a0 b0 l.length arcs.length c0 d0 w
  by_cases hfew : l.length ≤ 30 ∧ arcs.length ≤ 60
  · rw [decide_eq_true hfew] at gf
    obtain ⟨hl1, hl2⟩ := hfew
    have GF := Lib.hid gf
    by_cases hl3 : frm.length ≤ 30
    · have P1 := Lib.hid fun w' (h : Below w.heap.size w w') => C.reach _ _ _ l arcs frm w' (IA.out w' h) (IB.out w' h) (IF.out w' h) hl1 hl2 hl3 bl ba bf
      have P2 := Lib.hid fun w' (h : Below w.heap.size w w') => C.levels _ _ l arcs w' (IA.out w' h) (IB.out w' h) hl1 hl2 bl ba
      have R1 := Lib.hid fun w' (h : Below w.heap.size w w') => refReach_any _ _ _ l arcs frm w' (IA.out w' h) (IB.out w' h) (IF.out w' h) (by omega) (by omega) (by omega)
      have R2 := Lib.hid fun w' (h : Below w.heap.size w w') => refLevels_any _ _ l arcs w' (IA.out w' h) (IB.out w' h) (by omega) (by omega)
      have hsl := setL_le l
      have hrl : (reachL l arcs frm).length ≤ (setL l).length := Nat.le_trans (setL_le _) (itR_told (arcs := arcs) (startR_told l frm) _).len
      have hvl : (levL l arcs).length = (setL l).length := by unfold levL; rw [List.length_map]
      have h3 : ¬ (30 : Int) < (frm.length : Int) := by omega
      generalize reachL l arcs frm = O at *
      generalize levL l arcs = L at *
      have CI1 := Lib.hid fun va vb w (ha : IntsAt w va O) (hb : IntsAt w vb O) => refInts_any va vb O O w ha hb (by omega) (by omega)
      have CI2 := Lib.hid fun va vb w (ha : IntsAt w va L) (hb : IntsAt w vb L) => refInts_any va vb L L w ha hb (by omega) (by omega)
      simp only [decide_true] at CI1 CI2
      have BB := Lib.hid (Below.refl w.heap.size w)
      clear ha hb hf gf hl1 hl2 hl3 hsl hrl hvl
      go_enter Try.func4, Try.ntmps4
      go_wp2_with (first
        | (go_at_call 6; (with_reducible refine (GF.out _).mono ?_); rintro e w0 ⟨rfl, rfl⟩)
        | (go_at_call 13; (with_reducible refine (P1.out _ BB.out).mono ?_); rintro e w1 ⟨v1, rfl, h, hb⟩; replace BB := Lib.hid (BB.out.trans (hb.mono BB.out.size)); obtain ⟨a1, c1, e⟩ := h.form; subst e; have X1 := Lib.hid h; clear h hb)
        | (go_at_call 14; (with_reducible refine (R1.out _ BB.out).mono ?_); rintro e w2 ⟨v2, rfl, h, hb⟩; replace BB := Lib.hid (BB.out.trans (hb.mono BB.out.size)); have h := OwnI.ints h; obtain ⟨a2, c2, e⟩ := h.form; subst e; have X2 := Lib.hid h; replace X1 := Lib.hid (X1.out.below hb); clear h hb)
        | (go_at_call 10; (with_reducible refine (CI1.out _ _ _ X1.out X2.out).mono ?_); rintro e w3 ⟨rfl, hb⟩; replace BB := Lib.hid (BB.out.trans (hb.mono BB.out.size)); clear hb X1 X2)
        | (go_at_call 15; (with_reducible refine (P2.out _ BB.out).mono ?_); rintro e w4 ⟨v4, rfl, h, hb⟩; replace BB := Lib.hid (BB.out.trans (hb.mono BB.out.size)); obtain ⟨a4, c4, e⟩ := h.form; subst e; have X4 := Lib.hid h; clear h hb)
        | (go_at_call 16; (with_reducible refine (R2.out _ BB.out).mono ?_); rintro e w5 ⟨v5, rfl, h, hb⟩; replace BB := Lib.hid (BB.out.trans (hb.mono BB.out.size)); have h := OwnI.ints h; obtain ⟨a5, c5, e⟩ := h.form; subst e; have X5 := Lib.hid h; replace X4 := Lib.hid (X4.out.below hb); clear h hb)
        | (go_at_call 10; (with_reducible refine (CI2.out _ _ _ X4.out X5.out).mono ?_); rintro e w6 ⟨rfl, hb⟩; replace BB := Lib.hid (BB.out.trans (hb.mono BB.out.size)); clear hb X4 X5)
        | (go_at_call 7; (with_reducible refine (HAL.out _).mono ?_); rintro e w7 ⟨rfl, hb⟩; replace BB := Lib.hid (BB.out.trans (hb.mono BB.out.size)); clear hb))
      go_ret
      exact ⟨rfl, BB.out⟩
    · have h3 : (30 : Int) < (frm.length : Int) := by omega
      clear ha hb hf gf hl1 hl2 hl3
      go_enter Try.func4, Try.ntmps4
      go_wp2_with (first
        | (go_at_call 6; (with_reducible refine (GF.out _).mono ?_); rintro e w0 ⟨rfl, rfl⟩)
        | (go_at_call 7; (with_reducible refine (HAL.out _).mono ?_); rintro e w7 ⟨rfl, hb⟩))
      go_ret
      exact ⟨rfl, hb⟩
  · rw [decide_eq_false hfew] at gf
    have GF := Lib.hid gf
    clear ha hb hf gf hfew
    go_enter Try.func4, Try.ntmps4
    go_wp2_with (first
      | (go_at_call 6; (with_reducible refine (GF.out _).mono ?_); rintro e w0 ⟨rfl, rfl⟩)
      | (go_at_call 7; (with_reducible refine (HAL.out _).mono ?_); rintro e w7 ⟨rfl, hb⟩))
    go_ret
    exact ⟨rfl, hb⟩
end Go.Proofs.Ytnfdhlkngjplkaa
