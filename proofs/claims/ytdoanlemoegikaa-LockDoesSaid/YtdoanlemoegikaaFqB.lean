/- Stage 18's program: New, At, List. -/
import Derived.Test.YtdoanlemoegikaaFqA
namespace Go.Proofs.Ytdoanlemoegikaa
open Go.RowKit

/-- one number in a block of its own -/
theorem oneI18 {w : World} {b : Nat} {n : Int} (hh : w.heap[b]? = some (.cells #[.int .i64 n] 3 (0, 0))) : RowsAt w 1 csI (.slice (some ⟨b, 0, none⟩) 1 1) [n] := by
  refine ⟨_, 1, rfl, Nat.le_refl _, fun _ => ⟨b, 0, rfl, lt_of_block hh, fun j x hj i u hu => ?_⟩⟩
  have hj0 : j = 0 := by have := (List.getElem?_eq_some_iff.1 hj).1; simp at this; omega
  subst hj0
  have hx : x = n := by simpa using hj.symm
  subst hx
  have hi : i = 0 := by have := (List.getElem?_eq_some_iff.1 hu).1; simp [csI] at this; omega
  subst hi
  have hu2 : u = .int .i64 x := by simpa [csI] using hu.symm
  subst hu2
  simp [World.cell?, hh]

section
variable {w w' : World} {p m : Nat} {R : List Int} {f : Nat} {room : Int} {n : Nat} {g : Int → Option Bool}
set_option maxHeartbeats 2000000 in
set_option maxRecDepth 100000 in
theorem fAt_any {l : List Int} (x : Int) (h : FqRaw w p m R f room l.length (setB l)) (hr : RingIs R f l) (hx : I64 x) : Calls Try.prog 34 #[ptr18 p, .int .i64 x] w fun e w' => e = .returned (.int .i64 (plcL l x)) ∧ Below w.heap.size w w' := by
  have H1 := Lib.hid (fHas_any x h hx)
  obtain ⟨r, hrr⟩ : ∃ r, plcL l x = r := ⟨_, rfl⟩
  have HP := Lib.hid hrr
  rw [hrr]
  have HR := Lib.hid hr
  have H := Lib.hid h
  by_cases hin : x ∈ l
  · rw [inL_iff.2 hin] at H1
    have HIN := Lib.hid hin
    clear h hr hx hrr hin
    go_enter Try.func34, Try.ntmps34
    go_wp2
    refine wp_scope_goto 0 (fun n a' w' => ∃ k : Nat, n = l.length - k ∧ k < l.length ∧ x ∉ l.take k ∧ Below w.heap.size w w' ∧ ∃ u2 u3 u6 u7 u8 u9 u10 u11 u12 u13 u14 u15 u16 u17 u18 u19 u20 u21 u22, a' = { tmps := #[ptr18 p, .int .i64 x, u2, u3, .int .i64 0, .int .i64 (k : Int), u6, u7, u8, u9, u10, u11, u12, u13, u14, u15, u16, u17, u18, u19, u20, u21, u22], defers := [] }) rfl rfl ?_ ?_
    · rintro n a' w' ⟨k, rfl, hk, hno, hb, u2, u3, u6, u7, u8, u9, u10, u11, u12, u13, u14, u15, u16, u17, u18, u19, u20, u21, u22, rfl⟩ K hK
      have HK := Lib.hid hK
      have hf := HR.out.fl
      have hk2 := HR.out.le
      have hat := HR.out.at_ k hk
      rw [List.getElem?_eq_getElem hk] at hat
      have H2 := Lib.hid (H.out.kept hb)
      have PL := fun (w1 : World) (hb1 : Below w'.heap.size w' w1) => Lib.hid (fPlace_any k (H2.out.kept hb1) hf (by omega))
      obtain ⟨t, ht⟩ : ∃ t, (f + k) % 1024 = t := ⟨_, rfl⟩
      rw [ht] at hat PL
      have c0 := H2.out.ring hat
      have t0 : (0 : Int) ≤ (t : Int) := by omega
      have t1 : (t : Int) < 1024 := by omega
      have k0 : (0 : Int) ≤ (k : Int) := by omega
      have k1 : (k : Int) ≤ 1024 := by omega
      have HB := Lib.hid hb
      have HKL := Lib.hid hk
      by_cases hyx : l[k]'hk = x
      · have HF := Lib.hid ((plc_found hk hyx hno).symm.trans HP.out)
        rw [hyx] at c0
        clear hK hk hno hb hat hk2 hf hyx ht
        go_wp2
        refine wp_region_calm0 (by kernel_rfl) (by kernel_rfl) fun M => ?_
        have m0 := fun n : In M.w => n.cell (M.cell c0)
        have PN := fun n : In M.w => Lib.hid ((PL n.w (M.h.trans (n.h.mono M.h.size))).out)
        repeat (go_big_quiet_step ((go_at_call 33; with_reducible exact In.call_same (PN _).out)))
        refine wpQuiet_nil ?_
        clear m0 PN M
        intro w1 hb1
        have HB1 := Lib.hid (HB.out.trans (hb1.mono HB.out.size))
        clear hb1
        go_wp2
        simp only [Exit.jump]
        exact bodyPost_ret (v := .int .i64 (k : Int)) (by simp [results, Try.results34, go_sem]) rfl ⟨ret_i HF.out, HB1.out⟩
      · have HNO := Lib.hid (inL_take l x k hk hyx hno)
        have HLT := Lib.hid (show k + 1 < l.length from by
          rcases Nat.lt_or_ge (k + 1) l.length with h | h
          · exact h
          · exfalso
            have := HNO.out
            rw [List.take_of_length_le h] at this
            exact this HIN.out)
        have hy2 : (l[k]'hk == x) = false := beq_noI hyx
        generalize l[k]'hk = y at *
        clear hK hk hno hb hat hk2 hf hyx ht
        go_wp2
        refine wp_region_calm0 (by kernel_rfl) (by kernel_rfl) fun M => ?_
        have m0 := fun n : In M.w => n.cell (M.cell c0)
        have PN := fun n : In M.w => Lib.hid ((PL n.w (M.h.trans (n.h.mono M.h.size))).out)
        repeat (go_big_quiet_step ((go_at_call 33; with_reducible exact In.call_same (PN _).out)))
        refine wpQuiet_nil ?_
        clear m0 PN M
        intro w1 hb1
        have HB1 := Lib.hid (HB.out.trans (hb1.mono HB.out.size))
        clear hb1
        go_wp2
        go_step3
        exact ⟨rfl, HK.out (l.length - (k + 1)) _ _ (by have := HKL.out; omega) ⟨k + 1, rfl, HLT.out, HNO.out, HB1.out, _, _, _, _, _, _, _, _, _, _, _, _, _, _, _, _, _, _, _,  by first | rfl | (congr 1; go_num)⟩⟩
    · intro K hK
      have HK := Lib.hid hK
      clear hK
      go_wp2_with (go_at_call 30; (with_reducible refine H1.out.mono ?_); rintro e w1 ⟨rfl, rfl⟩)
      go_step3
      rename_i hback
      refine hback _ _ ?_
      exact HK.out _ _ _ ⟨0, rfl, List.length_pos_of_mem HIN.out, by simp, Below.refl _ _, _, _, _, _, _, _, _, _, _, _, _, _, _, _, _, _, _, _, _,  rfl⟩
  · rw [inL_not.2 hin] at H1
    have HF := Lib.hid ((plc_none hin).symm.trans HP.out)
    clear h hr hx hrr hin
    go_enter Try.func34, Try.ntmps34
    go_wp2
    refine wp_scope_goto 0 (fun _ _ _ => False) rfl rfl (fun _ _ _ h => h.elim) ?_
    intro K _
    go_wp2_with (go_at_call 30; (with_reducible refine H1.out.mono ?_); rintro e w1 ⟨rfl, rfl⟩)
    simp only [Exit.jump]
    exact bodyPost_ret (v := .int .i64 (-1)) (by simp [results, Try.results34, go_sem]) rfl ⟨ret_i HF.out, Below.refl _ _⟩
theorem fAt_nil (x : Int) (w : World) : Calls Try.prog 34 #[.pointer none, .int .i64 x] w fun e w' => e = .returned (.int .i64 (-1)) ∧ Below w.heap.size w w' := by
  have H1 := Lib.hid (fHas_nil x w)
  go_enter Try.func34, Try.ntmps34
  go_wp2
  refine wp_scope_goto 0 (fun _ _ _ => False) rfl rfl (fun _ _ _ h => h.elim) ?_
  intro K _
  go_wp2_with (go_at_call 30; (with_reducible refine H1.out.mono ?_); rintro e w1 ⟨rfl, rfl⟩)
  simp only [Exit.jump]
  exact bodyPost_ret (v := .int .i64 (-1)) (by simp [results, Try.results34, go_sem]) rfl ⟨rfl, Below.refl _ _⟩

set_option maxHeartbeats 4000000 in
set_option maxRecDepth 100000 in
theorem fList_own {l : List Int} (h : FqRaw w p m R f room l.length (setB l)) (hr : RingIs R f l) : Calls Try.prog 29 #[ptr18 p] w fun e w' => ∃ v, e = .returned v ∧ OwnI w' w.heap.size v l ∧ Below w.heap.size w w' := by
  have H1 := Lib.hid (fLen_any h)
  have HR := Lib.hid hr
  have H := Lib.hid h
  obtain ⟨i0, hi, hz0, hz1, hz2⟩ := info_parts info_int
  clear h hr
  go_enter Try.func29, Try.ntmps29
  go_wp2_with (go_at_call 31; (with_reducible refine H1.out.mono ?_); rintro e w1 ⟨rfl, rfl⟩)
  go_loopw [3, 7] (fun v iv wr => ∃ k : Nat, k ≤ l.length ∧ iv = .int .i64 k ∧ OwnI wr w.heap.size v (l.take k) ∧ Below w.heap.size w wr) (fun _ iv _ => l.length - (intOf iv).toNat)
  case atStart => exact ⟨0, Nat.zero_le _, rfl, OwnR.nil _ _ _ _ _, Below.refl _ _⟩
  case round =>
    obtain ⟨k, hk, rfl, ho, hb⟩ := hrel
    have HO := Lib.hid ho
    have HB := Lib.hid hb
    by_cases hlt : k < l.length
    · have hf := HR.out.fl
      have hk2 := HR.out.le
      have hat := HR.out.at_ k hlt
      rw [List.getElem?_eq_getElem hlt] at hat
      have H2 := Lib.hid (H.out.kept hb)
      have HN := Lib.hid (List.take_succ_eq_append_getElem hlt)
      have PL := fun (w1 : World) (hb1 : Below wr.heap.size wr w1) => Lib.hid (fPlace_any k (H2.out.kept hb1) hf (by omega))
      obtain ⟨t, ht⟩ : ∃ t, (f + k) % 1024 = t := ⟨_, rfl⟩
      rw [ht] at hat PL
      have c0 := H2.out.ring hat
      have t0 : (0 : Int) ≤ (t : Int) := by omega
      have t1 : (t : Int) < 1024 := by omega
      have k0 : (0 : Int) ≤ (k : Int) := by omega
      have k1 : (k : Int) < (l.length : Int) := by omega
      have k2 : (k : Int) ≤ 1024 := by omega
      have HTL := Lib.hid (show (l.take k).length ≤ 1000000 by rw [List.length_take]; omega)
      have HKL := Lib.hid hlt
      obtain ⟨a3, c3, e3⟩ := RowsAt.form (OwnR.rows csI_len ho)
      have e4 : (l.take k).length = k := by rw [List.length_take]; omega
      rw [e4] at e3
      generalize l[k]'hlt = y at *
      clear ho hb hlt hk hf hk2 hat ht e4
      subst e3
      go_wp2
      refine wp_region_calmN 9 10 [(.cells #[.int .i64 y] 3, fun b => .slice (some ⟨b, 0, none⟩) 1 1)] (by kernel_rfl) (by simp) (by simp) (by kernel_rfl) fun M => ?_
      simp only [List.take_succ_cons, List.take_zero, List.drop_succ_cons, List.drop_zero, List.length_cons, List.length_nil]
      have m0 := fun n : In M.w => n.cell (M.cell c0)
      have PN := fun n : In M.w => Lib.hid ((PL n.w (M.h.trans (n.h.mono M.h.size))).out)
      repeat (go_big_quiet_step ((go_at_call 33; with_reducible exact In.call_same (PN _).out)))
      refine wpQuiet_nil ?_
      clear m0 PN M
      refine ⟨rfl, fun n => by simp [go_sem], fun bp hbp _ w2 hw => ?_⟩
      have hb2 := hw.below
      have HH := Lib.hid (oneI18 (hw.own bp _ (Gh.set_self _ _ _)))
      have HO2 := Lib.hid (OwnR.kept HO.out hb2)
      have HB2 := Lib.hid (HB.out.trans (hb2.mono HB.out.size))
      clear hw hb2 c0
      go_wp2_with (at_builtin; refine wpList_append_rows csI_len (by decide) csI_one13 rfl _ _ 26 rfl w.heap.size 3 i0 (.int .i64 0) 8 Try.underlying26 hi hz0 hz1 hz2 rfl _ _ rfl HO2.out _ [y] rfl HH.out (by have := HTL.out; unfold maxLen; simp; omega) (by have := HTL.out; simp; omega) HB2.out.size ?_; intro v3 w3 k1 k2; have HO3 := Lib.hid k1; have HB3 := Lib.hid (OwnR.below HO2.out HB2.out HB2.out.size k2); clear k1 k2)
      go_roundw
      case rel => exact ⟨k + 1, by have := HKL.out; omega, by go_num, by rw [HN.out]; exact HO3.out, HB3.out⟩
      case measure => have := HKL.out; simp [intOf] <;> omega
    · have hke : k = l.length := by omega
      subst hke
      rw [List.take_length] at HO
      clear ho hb hlt hk
      go_wp2
      go_ret
      exact ⟨_, rfl, HO.out, HB.out⟩
theorem fList_any {l : List Int} (h : FqRaw w p m R f room l.length (setB l)) (hr : RingIs R f l) : Calls Try.prog 29 #[ptr18 p] w fun e w' => ∃ v, e = .returned v ∧ IntsAt w' v l ∧ Below w.heap.size w w' :=
  (fList_own h hr).mono fun _ _ ⟨v, h1, h2, h3⟩ => ⟨v, h1, OwnI.ints h2, h3⟩
end
end Go.Proofs.Ytdoanlemoegikaa
