/- The law TapeSure. -/
import Derived.Test.YtgfcgabaacdjlaaTapeLaw
namespace Go.Proofs.Ytgfcgabaacdjlaa
open Go.RowKit

theorem ba_size (l : List UInt8) : (⟨l.toArray⟩ : ByteArray).size = l.length := by simp [ByteArray.size]
theorem ba_front (l : List UInt8) (k : Nat) : (⟨l.toArray⟩ : ByteArray).extract 0 k = ⟨(l.take k).toArray⟩ := by
  apply ByteArray.ext
  apply Array.ext'
  simp [ByteArray.extract, ByteArray.copySlice]

set_option maxHeartbeats 4000000 in
set_option maxRecDepth 100000 in
theorem tapeSure_any (va : Value) (l : List Ab) (keep : Int) (w : World) (ha : ActsAt w va l) (hl : l.length ≤ 9223372036854775807) :
    Calls Try.prog 4 #[va, .int .i64 keep] w fun e w' => e = .returned (.bool true) ∧ Below w.heap.size w w' := by
  have HAL := Lib.hid fun w => tAlive11_any w
  have HA := Lib.hid ha
  have hfew := Lib.hid (refFew11_any va l 60 w ha hl)
  obtain ⟨a, c, rfl⟩ := ha.form
  clear ha hl
  by_cases hw : fewA l 60
  · rw [decide_eq_true hw] at hfew
    have hl60 : l.length ≤ 60 := by have := hw.1; omega
    have H60 := Lib.hid hw.2
    clear hw
    go_enter Try.func4, Try.ntmps4
    go_wp2_with (first
      | (go_at_call 5; (with_reducible refine hfew.out.mono ?_); rintro e w0 ⟨rfl, rfl⟩)
      | (go_at_call 7; (with_reducible refine (tNew_any _).mono ?_); rintro e w1 ⟨p, rfl, hp, ht, hb⟩; have HP := Lib.hid hp; have HT := Lib.hid ht; have HB := Lib.hid hb; clear hp ht hb))
    clear hfew
    go_loopw [19] (fun iv wr => ∃ (k : Nat) (H L : List UInt8) (F : Nat → Prop) (vh vl : Value), k ≤ l.length ∧ iv = .int .i64 k ∧ TapeAt F wr p H L vh vl ∧ (∀ k, F k → w.heap.size ≤ k) ∧ Below w.heap.size w wr ∧ H.length + L.length ≤ 60 * k) (fun iv _ => l.length - (intOf iv).toNat)
    case atStart => exact ⟨0, [], [], _, _, _, Nat.zero_le _, rfl, HT.out, fun k hk => (by have := HP.out; omega), HB.out, by simp⟩
    case round =>
      obtain ⟨k, H, L, F, vh, vl, hk, rfl, ht, hF, hbel, hn⟩ := hrel
      by_cases hlt : k < l.length
      · obtain ⟨g, o, cc, e, p0, p1, p2, hx⟩ := (HA.out.kept hbel).at k hlt
        have hx60 := H60.out l[k] (List.getElem_mem hlt)
        rw [slen hx] at p2 hx
        cases e
        generalize l[k].k = kk at *
        generalize l[k].n = nn at *
        generalize l[k].b = bb at *
        generalize l[k].s.1 = s1 at *
        generalize l[k].s.2.2 = c1 at *
        have k0 : (0 : Int) ≤ (k : Int) := by omega
        have k1 : (k : Int) < (l.length : Int) := by omega
        have hal := (Below.refl wr.heap.size wr).alloc (Nat.le_refl _) (.cells #[.int .i64 kk, .int .i64 nn, .slice s1 bb.length c1] 31)
        have G1 := Lib.hid (lDo11_any (.slice s1 bb.length c1) bb kk nn _ (ht.al (.cells #[.int .i64 kk, .int .i64 nn, .slice s1 bb.length c1] 31)) (RowsAt.kept hx hal) (by omega))
        have HBE := Lib.hid (hbel.alloc hbel.size (.cells #[.int .i64 kk, .int .i64 nn, .slice s1 bb.length c1] 31))
        have HF := Lib.hid hF
        have hbd := tHL_len H L kk nn bb
        clear hF hx hal hbel ht
        go_wp2_with (go_at_call 8; (with_reducible refine G1.out.mono ?_); rintro e w2 ⟨rfl, vh', vl', F', ht1, hm1⟩; have HT1 := Lib.hid ht1; have HB1 := Lib.hid (HBE.out.trans (hm1.only.below HF.out HBE.out.size)); have HF1 := Lib.hid (hm1.from_ HF.out HBE.out.size); clear ht1 hm1)
        go_roundw
        case rel => exact ⟨k + 1, _, _, F', vh', vl', by omega, by go_num, HT1.out, HF1.out, HB1.out, by omega⟩
        case measure => simp [intOf] <;> omega
      · have hke : k = l.length := by omega
        subst hke
        obtain ⟨T, hT⟩ : ∃ T, H ++ L = T := ⟨_, rfl⟩
        have hlen : T.length = H.length + L.length := by rw [← hT, List.length_append]
        have CBy := Lib.hid fun (n : In wr) => (tBytes_any n.w (ht.kept n.h) (by omega)).mono fun e w' h => (show ∃ v, e = .returned v ∧ OwnO w' 1 csB v T ∧ (∀ g, v.ownBlock = some g → n.w.heap.size ≤ g) ∧ Below n.w.heap.size n.w w' by
          obtain ⟨v, h1, h2, h3⟩ := h
          rw [hT] at h2
          exact ⟨v, h1, OwnR.own h2, fun g hg => (h2.lt g hg).1, h3⟩)
        have CS := Lib.hid fun (n : In wr) => tSure_any n.w (ht.kept n.h)
        obtain ⟨m, hm⟩ : ∃ m, (min (max keep 0) (L.length : Int)).toNat = m := ⟨_, rfl⟩
        have hml : m ≤ L.length := by omega
        have CC := Lib.hid fun (w1 : World) (hb : Below wr.heap.size wr w1) => tCrash_any keep w1 (ht.kept hb) (by omega)
        rw [hm] at CC
        have hU : T.take (H.length + m) = H ++ L.take m := by rw [← hT, List.take_append, List.take_of_length_le (show H.length ≤ H.length + m by omega), Nat.add_sub_cancel_left]
        rw [← hU] at CC
        have hul : (T.take (H.length + m)).length = H.length + m := by rw [List.length_take]; omega
        have hfr := ba_front T (H.length + m)
        obtain ⟨U, hUe⟩ : ∃ U, T.take (H.length + m) = U := ⟨_, rfl⟩
        rw [hUe] at CC hul hfr
        obtain ⟨u, hu⟩ : ∃ u, H.length + m = u := ⟨_, rfl⟩
        rw [hu] at hul hfr
        have hsT := ba_size T
        have hsU := ba_size U
        have hconv : ∀ (w : World) (x : Option Addr × Nat), OwnO w 1 csB (.slice x.1 T.length x.2) T → (convert 27 9 (.slice x.1 T.length x.2)).run Try.prog w = .ok (.string ⟨T.toArray⟩) w := fun w x h => str_of_bytes (h.rows csB_len)
        have hbU : ∀ (F : Nat → Prop) vh vl w, TapeAt F w p U [] vh vl → Calls Try.prog 10 #[ptr p] w fun e w' => (∃ a c, e = .returned (.slice a u c) ∧ (convert 27 9 (.slice a u c)).run Try.prog w' = .ok (.string ⟨U.toArray⟩) w') ∧ Below w.heap.size w w' := fun F vh vl w h => by
          refine (tBytes_any w h (by simp; omega)).mono ?_
          rintro e w' ⟨v, h1, h2, h3⟩
          rw [List.append_nil] at h2
          have h4 := str_of_bytes (OwnB.bytes h2)
          obtain ⟨a, c, rfl⟩ := RowsAt.form (OwnB.bytes h2)
          rw [hul] at h1 h4
          exact ⟨⟨a, c, h1, h4⟩, h3⟩
        have hsU' : ∀ (F : Nat → Prop) vh vl w, TapeAt F w p U [] vh vl → Calls Try.prog 12 #[ptr p] w fun e w' => e = .returned (.int .i64 (u : Int)) ∧ Below w.heap.size w w' := fun F vh vl w h => by
          have := tSure_any w h
          rwa [hul] at this
        obtain ⟨S, hS⟩ : ∃ S : ByteArray, (⟨T.toArray⟩ : ByteArray) = S := ⟨_, rfl⟩
        obtain ⟨V, hV⟩ : ∃ V : ByteArray, (⟨U.toArray⟩ : ByteArray) = V := ⟨_, rfl⟩
        rw [hS] at hconv hsT hfr
        rw [hV] at hbU hsU hfr
        rw [hul] at hsU
        obtain ⟨K, hK⟩ : ∃ K, max keep 0 = K := ⟨_, rfl⟩
        have i1 : (T.length : Int) - (H.length : Int) = (L.length : Int) := by omega
        have i2 : min K (L.length : Int) = (m : Int) := by omega
        have i3 : (H.length : Int) + (m : Int) = (u : Int) := by omega
        have i4 : (T.length : Int) ≤ 3600 := by omega
        have i5 : (u : Int) ≤ (T.length : Int) := by omega
        have i6 : (H.length : Int) ≤ (T.length : Int) := by omega
        have HBE := Lib.hid hbel
        have HF := Lib.hid hF
        have HBU := Lib.hid hbU
        have HSU := Lib.hid hsU'
        obtain ⟨N, hN⟩ : ∃ N, T.length = N := ⟨_, rfl⟩
        rw [hN] at hconv hsT i1 i4 i5 i6
        have HN := Lib.hid hN
        have HCV := Lib.hid hconv
        clear hN hconv hbU hsU' hbel hF hT hU hul hUe hlen hS hV hu hm hml ht hn
        go_wp2
        refine wp_region_chain 7 [.calm 1, .own (Lk.list wr.heap.size 1 csB N T), .own (Lk.val1 (.string S)), .calm 4] [1, 2] rfl (by kernel_rfl) (by simp) (by kernel_rfl) (by kernel_rfl) ?_
        simp only [List.take_succ_cons, List.take_zero, List.drop_succ_cons, List.drop_zero]
        refine ⟨by simp, fun M => ?_⟩
        simp only [List.take_succ_cons, List.take_zero, List.drop_succ_cons, List.drop_zero]
        repeat (go_big_quiet_step (fail))
        refine wpQuiet_nil ?_
        clear M
        refine ⟨rfl, Lk.at_call rfl (f := 10) (args := #[ptr p]) _ _ HN.out.symm (fun k => by simp [go_sem]) CBy.out, fun x1 A hA => ?_⟩
        simp [Act.put, Lk.list] at hA
        subst hA
        refine ⟨rfl, Lk.at_val (fun k hk => by have := HCV.out _ _ hk.1; simp [go_sem, this]), fun x2 A hA => ?_⟩
        simp [Act.put, Lk.val1] at hA
        subst hA
        refine ⟨by simp, fun M => ?_⟩
        simp only [List.take_succ_cons, List.take_zero, List.drop_succ_cons, List.drop_zero]
        have mS : Hid (∀ n : In M.w, Calls Try.prog 12 #[ptr p] n.w fun e w' => e = .returned (.int .i64 (H.length : Int)) ∧ Below n.w.heap.size n.w w') := Lib.hid fun n => CS.out (In.within n)
        repeat (go_big_quiet_step ((go_at_call 12; with_reducible exact In.call (mS.out _))))
        refine wpQuiet_nil ?_
        clear mS M
        refine ⟨rfl, fun w5 hb5 _ => ?_⟩
        have HB5 := Lib.hid (HBE.out.trans (hb5.mono HBE.out.size))
        have HC5 := Lib.hid (CC.out _ hb5)
        clear hb5 CC CS CBy HCV HBE
        have kc := fun (w : World) (C : Array Value) (n c : Nat) => Lib.run_convert_bytes_const (P := Try.prog) w 27 5 C n c Try.underlying27 Try.underlying5
        have q1 : ∀ w, Calls Try.prog 16 #[.pointer none, .int .i64 0] w fun e w' => e = .returned (.int .i64 0) ∧ Below w.heap.size w w' := tCut_nil 0
        have q2 : ∀ w, Calls Try.prog 16 #[.pointer none, .int .i64 1] w fun e w' => e = .returned (.int .i64 12) ∧ Below w.heap.size w w' := tCut_nil 1
        have q3 : ∀ w, Calls Try.prog 16 #[.pointer none, .int .i64 (-1)] w fun e w' => e = .returned (.int .i64 1) ∧ Below w.heap.size w w' := tCut_nil (-1)
        have Q1 := Lib.hid q1
        have Q2 := Lib.hid q2
        have Q3 := Lib.hid q3
        clear q1 q2 q3
        go_wp2_with (first
          | (go_at_call 13; (with_reducible refine HC5.out.mono ?_); rintro e w6 ⟨rfl, vh6, F6, ht6, hm6⟩; have HT6 := Lib.hid ht6; have HB6 := Lib.hid (HB5.out.trans (hm6.only.below HF.out HB5.out.size)); clear ht6 hm6 HC5)
          | (go_at_call 10; (with_reducible refine (HBU.out _ _ _ _ HT6.out).mono ?_); rintro e w7 ⟨⟨a7, c7, rfl, s7⟩, hb7⟩; have HT7 := Lib.hid (HT6.out.kept hb7); have HB7 := Lib.hid (HB6.out.trans (hb7.mono HB6.out.size)); clear hb7)
          | (go_at_call 12; (with_reducible refine (HSU.out _ _ _ _ HT7.out).mono ?_); rintro e w8 ⟨rfl, hb8⟩; have HB8 := Lib.hid (HB7.out.trans (hb8.mono HB7.out.size)); clear hb8 s7 HT6 HT7 HB6)
          | (go_at_call 14; (with_reducible refine (tWrite_nil _ _).mono ?_); rintro e w9 ⟨rfl, hb9⟩; have HB9 := Lib.hid ((HB8.out.alloc HB8.out.size _).trans (hb9.mono (HB8.out.alloc HB8.out.size _).size)); clear hb9)
          | (go_at_call 15; (with_reducible refine (tSync_nil _).mono ?_); rintro e w10 ⟨rfl, hb10⟩; have HB10 := Lib.hid (HB9.out.trans (hb10.mono HB9.out.size)); clear hb10)
          | (go_at_call 13; (with_reducible refine (tCrash_nil _ _).mono ?_); rintro e w11 ⟨rfl, hb11⟩; have HB11 := Lib.hid (HB10.out.trans (hb11.mono HB10.out.size)); clear hb11)
          | (go_at_call 11; (with_reducible refine (tLen_nil _).mono ?_); rintro e w12 ⟨rfl, hb12⟩; have HB12 := Lib.hid (HB11.out.trans (hb12.mono HB11.out.size)); clear hb12)
          | (go_at_call 12; (with_reducible refine (tSure_nil _).mono ?_); rintro e w13 ⟨rfl, hb13⟩; have HB13 := Lib.hid (HB12.out.trans (hb13.mono HB12.out.size)); clear hb13)
          | (go_at_call 10; (with_reducible refine (tBytes_nil _).mono ?_); rintro e w14 ⟨rfl, hb14⟩; have HB14 := Lib.hid (HB13.out.trans (hb14.mono HB13.out.size)); clear hb14)
          | (go_at_call 16; (with_reducible refine (Q1.out _).mono ?_); rintro e w15 ⟨rfl, hb15⟩; have HB15 := Lib.hid (HB14.out.trans (hb15.mono HB14.out.size)); clear hb15)
          | (go_at_call 16; (with_reducible refine (Q2.out _).mono ?_); rintro e w16 ⟨rfl, hb16⟩; have HB16 := Lib.hid (HB15.out.trans (hb16.mono HB15.out.size)); clear hb16)
          | (go_at_call 16; (with_reducible refine (Q3.out _).mono ?_); rintro e w17 ⟨rfl, hb17⟩; have HB17 := Lib.hid (HB16.out.trans (hb17.mono HB16.out.size)); clear hb17)
          | (go_at_call 6; (with_reducible refine (HAL.out _).mono ?_); rintro e w18 ⟨rfl, hb18⟩; have HB18 := Lib.hid (HB17.out.trans (hb18.mono HB17.out.size)); clear hb18))
        go_ret
        exact ⟨rfl, HB18.out⟩
  · rw [decide_eq_false hw] at hfew
    go_enter Try.func4, Try.ntmps4
    go_wp2_with (first
      | (go_at_call 5; (with_reducible refine hfew.out.mono ?_); rintro e w0 ⟨rfl, rfl⟩)
      | (go_at_call 6; (with_reducible refine (HAL.out _).mono ?_); rintro e w1 ⟨rfl, hb⟩))
    go_ret
    exact ⟨rfl, hb⟩
end Go.Proofs.Ytgfcgabaacdjlaa
