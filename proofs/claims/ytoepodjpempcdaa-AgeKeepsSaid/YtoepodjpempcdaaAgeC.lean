/- Stage 14's program: Sort. -/
import Derived.Test.YtoepodjpempcdaaAgeSortMath
import Derived.Test.YtoepodjpempcdaaSymG
import Derived.Test.YtoepodjpempcdaaApp1
import Derived.Test.YtoepodjpempcdaaLabels
namespace Go.Proofs.Ytoepodjpempcdaa
open Go.RowKit Go.Shelf

set_option maxHeartbeats 2000000 in
theorem aClone_any (va : Value) (l : List It) (w : World) (h : ItAt w va l) (hn : l.length ≤ 1000000) :
    Calls Try.prog 30 #[va] w fun e w' => ∃ v', e = .returned v' ∧ OwnIt w' w.heap.size v' l ∧ Below w.heap.size w w' := by
  obtain ⟨a, c, rfl⟩ := RowsAt.form h
  cases a with
  | none =>
    have hl : l = [] := by
      obtain ⟨a, cap, e, hc, hx⟩ := h
      cases e
      cases l with
      | nil => rfl
      | cons x t => obtain ⟨g, o, e, _⟩ := hx (by simp); cases e
    subst hl
    have he : (binOp BinOp.eql 28 (.slice none 0 c) (.slice none 0 0)).run Try.prog w = .ok (.bool true) w := by kernel_rfl
    clear h
    go_enter Try.func30, Try.ntmps30
    go_wp2
    go_ret
    exact ⟨_, rfl, OwnR.nil _ _ _ _ _, Below.refl _ _⟩
  | some g =>
    obtain ⟨i0, hi, hz0, hz1, hz2⟩ := info_parts info_it
    have hal := (Below.refl w.heap.size w).alloc (Nat.le_refl _) (.cells #[] 23)
    have HR := Lib.hid (RowsAt.kept h hal)
    have HO := Lib.hid (OwnR.empty w 4 csI4 23 w.heap.size rfl)
    have HB := Lib.hid hal
    have he : (binOp BinOp.eql 28 (.slice (some g) l.length c) (.slice none 0 0)).run Try.prog w = .ok (.bool false) w := by kernel_rfl
    clear h hal
    go_enter Try.func30, Try.ntmps30
    go_wp2_with (at_builtin; refine wpList_append_rows csI4_len (by decide) csI4_one rfl _ _ 28 rfl w.heap.size 23 i0 (.agg #[.int .i64 0, .int .i64 0, .int .i64 0, .int .i64 0]) 32 Try.underlying28 hi hz0 hz1 hz2 rfl _ _ rfl HO.out _ l rfl HR.out (by unfold maxLen; simp; omega) (by simp; omega) HB.out.size ?_; intro v2 w2 o2 g2; have HO2 := Lib.hid o2; have HB2 := Lib.hid (OwnR.below HO.out HB.out HB.out.size g2); clear o2 g2)
    go_ret
    exact ⟨_, rfl, HO2.out, HB2.out⟩

theorem tyItem : TyK Try.prog 23 28 4 := ⟨Try.isAgg23, Try.sizeOf23, Try.underlying28⟩
theorem ordI_cmp (now rate : Int) : CmpV Try.prog 29 #[agv now rate] #[] csI4 (ordI now rate) := fun x y w => aOrder_any now rate x y w
set_option maxHeartbeats 2000000 in
theorem aStable_any (now rate : Int) (v : Value) (l : List It) (B : Nat) (w : World) (h : OwnIt w B v l) (hB : B ≤ w.heap.size) (hn : l.length ≤ 1000000) :
    Calls Try.prog 31 #[v, .func (.func 29) #[agv now rate] #[]] w fun e w' => e = .returned (.tuple #[]) ∧ ∃ T, T.length = l.length ∧ idsA T = idsA (ordA l now rate) ∧ ItAt w' v T ∧ Below B w w' := by
  have eg : ∀ args w, (callFunc 29 args).run Try.prog w = .ok (.enter 29 args) w := enters_of Try.func29 (by kernel_rfl) rfl
  have := stable_own 4 tyItem csI4 csI4_len csI4_one (ordI now rate) (ordI_swo now rate) _ _ _ eg (ordI_cmp now rate) v l B _ w h hB (by omega)
  refine this.mono ?_
  rintro e w' ⟨rfl, T, h1, h2, h3, h4⟩
  refine ⟨rfl, T, h1.length_eq, ids_unique h1 (h2.imp fun {x y} h => ?_), h3, h4⟩
  rw [← ordI_ahead]
  exact h
theorem makeI0 (w : World) (n : Nat) (hn : n ≤ 1000000) : ∃ w', (Instr.makeSlice 30 (.int .i64 0) (.int .i64 (n : Int))).run Try.prog w = .ok (.slice (some ⟨w.heap.size, 0, none⟩) 0 n) w' ∧ OwnI w' w.heap.size (.slice (some ⟨w.heap.size, 0, none⟩) 0 n) [] ∧ Below w.heap.size w w' := by
  obtain ⟨i0, hi, hz0, hz1, hz2⟩ := info_parts info_int
  obtain ⟨w', h1, h2, h3⟩ := run_make_own (P := Try.prog) w w.heap.size 30 3 i0 (.int .i64 0) 1 Try.underlying30 hi hz0 hz1 .i64 .i64 n (by rw [hz2]; omega) (by unfold maxLen; omega) (Nat.le_refl _)
  exact ⟨w', h1, h2, (Below.refl _ _).grown h3 (Nat.le_refl _) (fun k hk => by cases hk)⟩

set_option maxHeartbeats 4000000 in
set_option maxRecDepth 100000 in
theorem aSort_any (va : Value) (l : List It) (now rate : Int) (W : World) (ha : ItAt W va l) (hl : l.length ≤ 100000) :
    Calls Try.prog 15 #[va, .int .i64 now, .int .i64 rate] W fun e w' => ∃ v, e = .returned v ∧ OwnI w' W.heap.size v (idsA (ordA l now rate)) ∧ Below W.heap.size W w' := by
  have hmf : ∀ (fn : Fn) (first cap : Array Value) (w : World), (Instr.makeFunc fn first cap).run Try.prog w = .ok (.func fn first cap) w := fun _ _ _ _ => rfl
  have H1 := Lib.hid (aClone_any va l W ha (by omega))
  have H2 := Lib.hid fun w => aAging_any now rate w
  have H3 := Lib.hid fun (v : Value) (w : World) (h : OwnIt w W.heap.size v l) (hB : W.heap.size ≤ w.heap.size) => aStable_any now rate v l W.heap.size w h hB (by omega)
  have HLL := Lib.hid hl
  generalize idsA (ordA l now rate) = O at *
  generalize agv now rate = ag at *
  clear ha hl
  go_enter Try.func15, Try.ntmps15
  go_wp2
  refine wp_scope_goto 0 (fun n a' w' => ∃ (T : List It) (k B : Nat) (vi vs : Value), n = T.length - k ∧ k ≤ T.length ∧ T.length ≤ 100000 ∧ idsA T = O ∧ OwnI w' B vi (idsA (T.take k)) ∧ (∀ w'', Below B w' w'' → ItAt w'' vs T) ∧ W.heap.size ≤ B ∧ B ≤ w'.heap.size ∧ Below W.heap.size W w' ∧ ∃ u3 u4 u5 u10 u11 u12 u13 u14 u15 u16 u17 u18 u19 u20 u21 u22 u23 u24 u25 u26 u27 u28 u29 u30 u31 u32 u33 u34 u35, a' = { tmps := #[va, .int .i64 now, .int .i64 rate, u3, u4, u5, .slice none 0 0, vs, vi, .int .i64 (k : Int), u10, u11, u12, u13, u14, u15, u16, u17, u18, u19, u20, u21, u22, u23, u24, u25, u26, u27, u28, u29, u30, u31, u32, u33, u34, u35], defers := [] }) rfl rfl ?_ ?_
  · rintro n a' w' ⟨T, k, B, vi, vs, rfl, hk, htn, hi, ho, ht, hs1, hs2, hb, u3, u4, u5, u10, u11, u12, u13, u14, u15, u16, u17, u18, u19, u20, u21, u22, u23, u24, u25, u26, u27, u28, u29, u30, u31, u32, u33, u34, u35, rfl⟩ K hK
    have HK := Lib.hid hK
    have HO := Lib.hid ho
    have HT := Lib.hid ht
    have HB := Lib.hid hb
    have HI := Lib.hid hi
    have HS := Lib.hid (show W.heap.size ≤ B ∧ B ≤ w'.heap.size from ⟨hs1, hs2⟩)
    have HTN := Lib.hid htn
    have ht0 := ht w' (Below.refl _ _)
    obtain ⟨a9, c9, e9⟩ := RowsAt.form ht0
    subst e9
    clear hK ho ht hb hi hs1 hs2 htn
    by_cases hlt : k < T.length
    · obtain ⟨g, o, cc, e, hcc, hgg, q0, q1, q2, q3⟩ := ItAt.at ht0 k hlt
      cases e
      have HNX := Lib.hid (idsA_take T k hlt)
      have HIL := Lib.hid (show (idsA (T.take k)).length ≤ 1000000 by unfold idsA; rw [List.length_map, List.length_take]; have := HTN.out; omega)
      have HKT := Lib.hid hlt
      have k0 : (0 : Int) ≤ (k : Int) := by omega
      have k1 : (k : Int) < (T.length : Int) := by omega
      have K2 : (k : Int) ≤ 100000 := by have := HTN.out; omega
      generalize T[k] = y at *
      obtain ⟨y1, y2, y3, y4⟩ := y
      simp only at HNX q0 q1 q2 q3
      clear hlt ht0 hk
      go_wp2_with (at_builtin; refine app1 HO.out HS.out.2 HIL.out rfl _ _ rfl rfl rfl ?_; intro v6 w6 o6 b6; have HO6 := Lib.hid o6; have HB6 := Lib.hid b6; clear o6 b6)
      go_step3
      refine ⟨rfl, HK.out (T.length - (k + 1)) _ _ (by have := HKT.out; omega) ⟨T, k + 1, B, v6, _, rfl, HKT.out, HTN.out, HI.out, by rw [HNX.out]; exact HO6.out, fun w'' hb => HT.out w'' (HB6.out.trans hb), HS.out.1, Nat.le_trans HS.out.2 HB6.out.size, HB.out.trans (HB6.out.mono HS.out.1), _, _, _, _, _, _, _, _, _, _, _, _, _, _, _, _, _, _, _, _, _, _, _, _, _, _, _, _, _,  by first | rfl | (congr 1; go_num)⟩⟩
    · have hke : k = T.length := by omega
      subst hke
      rw [List.take_length] at HO
      have k1 : ¬ (T.length : Int) < (T.length : Int) := by omega
      clear ht0 hk hlt
      go_wp2
      simp only [Exit.jump]
      refine bodyPost_ret (v := vi) (by simp [results, Try.results15, go_sem]) rfl ⟨_, rfl, ?_, HB.out⟩
      rw [← HI.out]
      exact HO.out.base13 HS.out.1
  · intro K hK
    have HK := Lib.hid hK
    clear hK
    go_upto_region 3 with (first
      | (go_at_call 30; (with_reducible refine H1.out.mono ?_); rintro e w1 ⟨v1, rfl, ho, hb⟩; have HO1 := Lib.hid ho; have HB1 := Lib.hid hb; clear ho hb)
      | (go_at_call 17; (with_reducible refine (H2.out _).mono ?_); rintro e w2 ⟨rfl, hb⟩; have HO2 := Lib.hid (OwnR.kept HO1.out hb); have HB2 := Lib.hid (HB1.out.trans (hb.mono HB1.out.size)); clear hb)
      | (go_at_call 31; (with_reducible refine (H3.out _ _ HO2.out HB2.out.size).mono ?_); rintro e w3 ⟨rfl, T, h1, h2, h3, h4⟩; have HT := Lib.hid h3; have HB3 := Lib.hid (HB2.out.trans h4); have HI := Lib.hid h2; have HTL := Lib.hid h1; obtain ⟨a3, c3, e3⟩ := RowsAt.form h3; subst e3; clear h1 h2 h3 h4))
    have hmk0 := makeI0 w3 T.length (by have := HTL.out; have := HLL.out; omega)
    obtain ⟨w4, hmk, o4, b4⟩ := hmk0
    have HT4 := Lib.hid (fun w'' (h : Below w3.heap.size w4 w'') => RowsAt.kept HT.out (b4.trans h))
    have HO4 := Lib.hid o4
    have HB4 := Lib.hid (HB3.out.trans (b4.mono HB3.out.size))
    have HS4 := Lib.hid (show w3.heap.size ≤ w4.heap.size from b4.size)
    have HS3 := Lib.hid (show W.heap.size ≤ w3.heap.size from HB3.out.size)
    have HTN := Lib.hid (show T.length ≤ 100000 by rw [HTL.out]; exact HLL.out)
    clear H1 H2 H3 o4 b4 HO1 HO2 HB1 HB2 HB3 HT HLL HTL
    go_wp2
    go_step3
    rename_i hback
    refine hback _ _ ?_
    exact HK.out _ _ _ ⟨T, 0, w3.heap.size, _, _, rfl, Nat.zero_le _, HTN.out, HI.out, HO4.out, HT4.out, HS3.out, HS4.out, HB4.out, _, _, _, _, _, _, _, _, _, _, _, _, _, _, _, _, _, _, _, _, _, _, _, _, _, _, _, _, _,  rfl⟩
end Go.Proofs.Ytoepodjpempcdaa
