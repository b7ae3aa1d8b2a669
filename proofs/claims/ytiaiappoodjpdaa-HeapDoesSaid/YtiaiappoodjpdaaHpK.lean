/- Stage 13's program: All. -/
import Derived.Test.YtiaiappoodjpdaaHpJ
import Derived.Test.YtiaiappoodjpdaaSortK
import Derived.Test.YtiaiappoodjpdaaOneI
import Derived.Shelf.Lay
import Derived.Shelf.SlGeneric
import Derived.Ground.SlsfProg
namespace Go.Proofs.Ytiaiappoodjpdaa
open Go.RowKit Go.Shelf
shelf_lay_g SlLaysF0.n6 Slsf 6 at Try 23 as sortTh

theorem ordT_swo : Sort.SWO (ltOf ordT) where
  irrefl x := by
    show decide (ordT x x < 0) = false
    rw [ordT_ahead]; exact ahead_irr x
  trans x y z h1 h2 := by
    unfold ltOf at *
    rw [ordT_ahead] at *
    exact ahead_trans h1 h2
  ntrans x y z h1 h2 := by
    unfold ltOf at *
    rw [ordT_ahead] at *
    exact nah_trans h2 h1
theorem ordT_cmp : CmpK Try.prog 24 csT ordT := fun x y w => hOrder_any x y w

set_option maxHeartbeats 2000000 in
theorem hSort_any (v : Value) (T : List Th) (B : Nat) (w : World) (h : OwnR w B 56 3 csT v T) (hB : B ≤ w.heap.size) (hn : T.length ≤ 1000000) :
    Calls Try.prog 23 #[v, .func (.func 24) #[] #[]] w fun e w' => e = .returned (.tuple #[]) ∧ ∃ T', T'.Perm T ∧ T'.Pairwise (fun x y => ahead y x = false) ∧ ThAt w' v T' ∧ Below B w w' := by
  have eg : ∀ args w, (callFunc 24 args).run Try.prog w = .ok (.enter 24 args) w := enters_of Try.func24 (by kernel_rfl) rfl
  have := sortK_own sortTh 3 Try.isAgg56 Try.sizeOf56 csT csT_len csT_one ordT ordT_swo _ eg ordT_cmp v T B _ w h hB (by omega)
  refine this.mono ?_
  rintro e w' ⟨rfl, T', h1, h2, h3, h4⟩
  refine ⟨rfl, T', h1, h2.imp fun {x y} h => ?_, h3, h4⟩
  rw [← ordT_ahead]
  exact h

set_option maxHeartbeats 2000000 in
theorem hClone_any (v : Value) (T : List Th) (w : World) (h : OwnO w 3 csT v T) (hn : T.length ≤ 1000000) :
    Calls Try.prog 22 #[v] w fun e w' => ∃ v', e = .returned v' ∧ OwnR w' w.heap.size 56 3 csT v' T ∧ Below w.heap.size w w' := by
  rcases id h with ⟨rfl, rfl⟩ | ⟨g, o, cap, rfl, _⟩
  · have he : (binOp BinOp.eql 51 (.slice none 0 0) (.slice none 0 0)).run Try.prog w = .ok (.bool true) w := by kernel_rfl
    clear h
    go_enter Try.func22, Try.ntmps22
    go_wp2
    go_ret
    exact ⟨_, rfl, OwnR.nil _ _ _ _ _, Below.refl _ _⟩
  · obtain ⟨i0, hi, hz0, hz1, hz2⟩ := info_parts info_hth
    have hal := (Below.refl w.heap.size w).alloc (Nat.le_refl _) (.cells #[] 56)
    have HR := Lib.hid ((h.rows csT_len).kept hal)
    have HO := Lib.hid (OwnR.empty w 3 csT 56 w.heap.size rfl)
    have HB := Lib.hid hal
    have he : (binOp BinOp.eql 51 (.slice (some ⟨g, o, none⟩) T.length cap) (.slice none 0 0)).run Try.prog w = .ok (.bool false) w := by kernel_rfl
    clear h hal
    go_enter Try.func22, Try.ntmps22
    go_wp2_with (at_builtin; refine wpList_append_rows csT_len (by decide) csT_one rfl _ _ 51 rfl w.heap.size 56 i0 (.agg #[.int .i64 0, .int .i64 0, .int .i64 0]) 24 Try.underlying51 hi hz0 hz1 hz2 rfl _ _ rfl HO.out _ T rfl HR.out (by unfold maxLen; simp; omega) (by simp; omega) HB.out.size ?_; intro v2 w2 o2 g2; have HO2 := Lib.hid o2; have HB2 := Lib.hid (OwnR.below HO.out HB.out HB.out.size g2); clear o2 g2)
    go_ret
    exact ⟨_, rfl, HO2.out, HB2.out⟩

set_option maxHeartbeats 4000000 in
set_option maxRecDepth 100000 in
theorem hAll_any {F : Nat → Prop} {p : Nat} {S : List Th} (w : World) (h : HeapAt F w p S) (hn : S.length ≤ 1000) :
    Calls Try.prog 17 #[ptr13 p] w fun e w' => ∃ v, e = .returned v ∧ OwnI w' w.heap.size v (idsT S) ∧ Below w.heap.size w w' := by
  obtain ⟨v, b, T, g, ⟨hr, hpos, hids⟩, hhp, hP, hS⟩ := h
  have hl := hP.length_eq
  have p0 := hr.blk.cell 0 rfl
  have HC := Lib.hid (hClone_any v T w hr.own (by omega))
  have HEQ := Lib.hid fun (T' : List Th) (h1 : T'.Perm T) (h2 : T'.Pairwise (fun x y => ahead y x = false)) => (show T' = S from by
    have hd : Dst T' := hpos.dst.perm h1.symm
    refine srtT_eq ?_ hS (h1.trans hP)
    refine List.pairwise_iff_getElem.2 fun i j hi hj hij => ahead_else (List.pairwise_iff_getElem.1 h2 i j hi hj hij) fun e => ?_
    have := hd.inj hj hi (by rw [tg_get _ _ hi, tg_get _ _ hj]; exact e)
    omega)
  obtain ⟨a0, c0, rfl⟩ := hr.own.form
  have HL := Lib.hid hl
  obtain ⟨i0, hi, hz0, hz1, hz2⟩ := info_parts info_int
  clear hr hpos hids hhp hP hS hl
  go_enter Try.func17, Try.ntmps17
  go_wp2_with (first
    | (go_at_call 22; (with_reducible refine HC.out.mono ?_); rintro e w1 ⟨v1, rfl, ho, hb⟩; have HB1 := Lib.hid hb; have HST := Lib.hid (hSort_any v1 T w.heap.size w1 ho hb.size (by have := HL.out; omega)); obtain ⟨a1, c1, e1⟩ := RowsAt.form (OwnR.rows csT_len ho); subst e1; clear ho hb)
    | (go_at_call 23; (with_reducible refine HST.out.mono ?_); rintro e w2 ⟨rfl, T', h1, h2, h3, h4⟩; have e2 := HEQ.out T' h1 h2; subst e2; have HR := Lib.hid h3; have HB2 := Lib.hid (HB1.out.trans h4); clear h1 h2 h3 h4 HST HEQ HC p0))
  generalize T.length = tl at *
  have htl := HL.out
  subst htl
  go_loopw [4, 18] (fun ov iv wr => ∃ k : Nat, k ≤ T'.length ∧ iv = .int .i64 k ∧ OwnI wr w2.heap.size ov (idsT (T'.take k)) ∧ Below w2.heap.size w2 wr) (fun _ iv _ => T'.length - (intOf iv).toNat)
  case atStart => exact ⟨0, by omega, rfl, OwnR.nil _ _ _ _ _, Below.refl _ _⟩
  case round =>
    obtain ⟨k, hk, rfl, ho, hB⟩ := hrel
    by_cases hlt : k < T'.length
    · obtain ⟨g, o, cc, e, hcc, hgg, q0, q1, q2⟩ := ThAt.at (RowsAt.kept HR.out hB) k hlt
      cases e
      have hnx := idsT_take T' k hlt
      have hil := idsT_len (T'.take k)
      rw [List.length_take] at hil
      have k0 : (0 : Int) ≤ (k : Int) := by omega
      have k1 : (k : Int) < (T'.length : Int) := by omega
      generalize T'[k] = y at *
      obtain ⟨y1, y2, y3⟩ := y
      simp only at hnx q0 q1 q2
      have hal := (Below.refl wr.heap.size wr).alloc (Nat.le_refl _) (.cells #[.int .i64 y1, .int .i64 y2, .int .i64 y3] 56)
      have HNX := Lib.hid hnx
      have HO := Lib.hid (OwnR.alloc (ho.kept hal) (.cells #[.int .i64 y1] 3))
      have hp1 := oneI13 (wr.alloc (.cells #[.int .i64 y1, .int .i64 y2, .int .i64 y3] 56)) y1
      rw [show (wr.alloc (.cells #[.int .i64 y1, .int .i64 y2, .int .i64 y3] 56)).heap.size = wr.heap.size + 1 by simp] at hp1
      have HP := Lib.hid hp1
      have HB := Lib.hid ((hB.alloc hB.size (.cells #[.int .i64 y1, .int .i64 y2, .int .i64 y3] 56)).alloc (by have := hB.size; simp; omega) (.cells #[.int .i64 y1] 3))
      have HIL := Lib.hid (show (idsT (T'.take k)).length ≤ 1000000 by omega)
      clear ho hB hal hnx hil hp1
      go_wp2_with (at_builtin; refine wpList_append_rows csI_len (by decide) csI_one13 rfl _ _ 44 rfl w2.heap.size 3 i0 (.int .i64 0) 8 Try.underlying44 hi hz0 hz1 hz2 rfl _ _ rfl HO.out _ [y1] rfl HP.out (by have := HIL.out; unfold maxLen; simp; omega) (by have := HIL.out; simp; omega) HB.out.size ?_; intro v3 w3 o3 g3; have HO3 := Lib.hid o3; have HB3 := Lib.hid (OwnR.below HO.out HB.out HB.out.size g3); clear o3 g3)
      go_roundw
      case rel => exact ⟨k + 1, by omega, by go_num, by rw [HNX.out]; exact HO3.out, HB3.out⟩
      case measure => simp [intOf] <;> omega
    · have hke : k = T'.length := by omega
      subst hke
      rw [List.take_length] at ho
      have HO := Lib.hid ho
      clear ho
      go_wp2
      go_ret
      exact ⟨_, rfl, HO.out.base13 HB2.out.size, HB2.out.trans (hB.mono HB2.out.size)⟩
end Go.Proofs.Ytiaiappoodjpdaa
