/- The law TapeDoes. -/
import Derived.Test.YtgfcgabaacdjlaaTapeAlive
namespace Go.Proofs.Ytgfcgabaacdjlaa
open Go.RowKit

theorem TapeAt.away {F : Nat → Prop} {w : World} {p : Nat} {H L : List UInt8} {vh vl : Value} (h : TapeAt F w p H L vh vl) (a : Addr) (u : Value) (hf : ¬ F a.block) : TapeAt F (w.setCell a u) p H L vh vl :=
  ⟨h.blk.away a u fun e => hf (e ▸ h.fp), h.held.away a u fun k hk e => hf (e ▸ (h.fh k hk).1), h.loose.away a u fun k hk e => hf (e ▸ (h.fl k hk).1), h.fp, h.fh, h.fl, h.sep, fun k hk => by have := h.lt k hk; simpa [World.setCell] using this⟩
/-- bytes that lie outside X -/
def OffB (X : Nat → Prop) (v : Value) (l : List UInt8) : Prop := 0 < l.length → ∀ g, v.ownBlock = some g → ¬ X g
theorem BytesAt.lt {w : World} {v : Value} {l : List UInt8} (h : BytesAt w v l) (h0 : 0 < l.length) : ∀ g, v.ownBlock = some g → g < w.heap.size := by
  obtain ⟨a, c, rfl, hc, hx⟩ := h
  obtain ⟨g, o, rfl, hg, _⟩ := hx h0
  intro k hk
  simp [Value.ownBlock] at hk
  omega
theorem BytesAt.same {w w' : World} {v : Value} {l : List UInt8} (h : BytesAt w v l) (hz : w.heap.size ≤ w'.heap.size) (he : 0 < l.length → ∀ g, v.ownBlock = some g → w'.heap[g]? = w.heap[g]?) : BytesAt w' v l := by
  obtain ⟨a, c, rfl, hc, hx⟩ := h
  refine ⟨a, c, rfl, hc, fun h0 => ?_⟩
  obtain ⟨g, o, rfl, hg, hcell⟩ := hx h0
  have e := he h0 g rfl
  exact ⟨g, o, rfl, by omega, fun j x hj i u hu => (World.cell?_of_block (a := ⟨g, o + j * 1 + i, none⟩) e).trans (hcell j x hj i u hu)⟩
theorem BytesAt.only {F : Nat → Prop} {w w' : World} {v : Value} {l : List UInt8} (h : BytesAt w v l) (ho : Only F w w') (hf : OffB F v l) : BytesAt w' v l :=
  h.same ho.size fun h0 g hg => ho.block g (h.lt h0 g hg) (hf h0 g hg)
theorem BytesAt.away {w : World} {v : Value} {l : List UInt8} (h : BytesAt w v l) (a : Addr) (u : Value) (hf : OffB (fun k => k = a.block) v l) : BytesAt (w.setCell a u) v l :=
  h.same (by simp [World.setCell]) fun h0 g hg => Below.heap_setCell w a u g (hf h0 g hg)
theorem OffB.mv {F F' : Nat → Prop} {w w' : World} {v : Value} {l : List UInt8} (h : OffB F v l) (hb : BytesAt w v l) (hm : Mv F F' w w') : OffB F' v l := fun h0 g hg => hm.off (hb.lt h0 g hg) (h h0 g hg)
theorem OffB.mono {X Y : Nat → Prop} {v : Value} {l : List UInt8} (h : OffB X v l) (hs : ∀ k, Y k → X k) : OffB Y v l := fun h0 g hg hy => h h0 g hg (hs g hy)

/-- the tape and the document's, side by side -/
structure Side (W : World) (p q : Nat) (wr : World) (H L : List UInt8) : Prop where
  tape : ∃ F vh vl, TapeAt F wr p H L vh vl ∧ ¬ F q ∧ (∀ k, F k → W.heap.size ≤ k) ∧ ∃ vB, Blk wr q [vB, .int .i64 (H.length : Int)] ∧ BytesAt wr vB (H ++ L) ∧ OffB (fun k => F k ∨ k = q) vB (H ++ L)
  below : Below W.heap.size W wr

theorem tHL_len (H L : List UInt8) (k n : Int) (b : List UInt8) : (tH H L k n).length + (tL L k b).length ≤ H.length + L.length + b.length := by
  unfold tH tL
  by_cases k1 : k = 1
  · subst k1
    simp
    omega
  by_cases k2 : k = 2
  · subst k2
    simp
  by_cases k3 : k = 3
  · subst k3
    simp
    omega
  by_cases k4 : k = 4
  · subst k4
    simp
    omega
  · simp [k1, k2, k3, k4]

set_option maxHeartbeats 4000000 in
set_option maxRecDepth 100000 in
theorem tapeDoes_any (va : Value) (l : List Ab) (w : World) (ha : ActsAt w va l) (hl : l.length ≤ 9223372036854775807) :
    Calls Try.prog 3 #[va] w fun e w' => e = .returned (.bool true) ∧ Below w.heap.size w w' := by
  have HAL := Lib.hid fun w => tAlive11_any w
  have HA := Lib.hid ha
  have hfew := Lib.hid (refFew11_any va l 60 w ha hl)
  obtain ⟨a, c, rfl⟩ := ha.form
  clear ha hl
  by_cases hw : fewA l 60
  · rw [decide_eq_true hw] at hfew
    have hl60 : l.length ≤ 60 := by have := hw.1; omega
    have H60 := Lib.hid hw.2
    clear hw
    go_enter Try.func3, Try.ntmps3
    go_wp2_with (first
      | (go_at_call 5; (with_reducible refine hfew.out.mono ?_); rintro e w0 ⟨rfl, rfl⟩)
      | (go_at_call 7; (with_reducible refine (tNew_any _).mono ?_); rintro e w1 ⟨p, rfl, hp, ht, hb⟩; have HP := Lib.hid hp; have HT := Lib.hid ht; have HB := Lib.hid hb; clear hp ht hb))
    have hS0 : Side w p w1.heap.size (w1.alloc (.cells #[.slice none 0 0, .int .i64 0] 29)) [] [] :=
      ⟨⟨_, _, _, HT.out.al _, fun h => (by have := HT.out.lt p rfl; omega), fun k hk => (by have := HP.out; omega), .slice none 0 0, Blk.new w1 _ _, RowsAt.nil _ _ _, fun h => (by simp at h)⟩, HB.out.alloc HB.out.size _⟩
    have HS0 := Lib.hid hS0
    have hqw1 : w.heap.size ≤ w1.heap.size := HB.out.size
    generalize w1.heap.size = q at *
    have HQW := Lib.hid hqw1
    clear hS0 hfew hqw1
    go_loopw [17] (fun iv wr => ∃ (k : Nat) (H L : List UInt8), k ≤ l.length ∧ iv = .int .i64 k ∧ Side w p q wr H L ∧ H.length + L.length ≤ 60 * k) (fun iv _ => l.length - (intOf iv).toNat)
    case atStart => exact ⟨0, [], [], Nat.zero_le _, rfl, HS0.out, by simp⟩
    case round =>
      obtain ⟨k, H, L, hk, rfl, hS, hn⟩ := hrel
      by_cases hlt : k < l.length
      · obtain ⟨⟨F, vh, vl, ht, hq, hF, vB, hb, hB, ho⟩, hbel⟩ := hS
        obtain ⟨g, o, cc, e, p0, p1, p2, hx⟩ := (HA.out.kept hbel).at k hlt
        have hx0 := HA.out.2 _ (List.getElem_mem hlt)
        have hx60 := H60.out l[k] (List.getElem_mem hlt)
        rw [slen hx0] at p2 hx hx0
        cases e
        generalize l[k].k = kk at *
        generalize l[k].n = nn at *
        generalize l[k].b = bb at *
        generalize l[k].s.1 = s1 at *
        generalize l[k].s.2.2 = c1 at *
        obtain ⟨T, hT⟩ : ∃ T, H ++ L = T := ⟨_, rfl⟩
        rw [hT] at hB ho
        obtain ⟨aB, cB, rfl⟩ := RowsAt.form hB
        have HTT := Lib.hid hT
        clear hT
        have k0 : (0 : Int) ≤ (k : Int) := by omega
        have k1 : (k : Int) < (l.length : Int) := by omega
        have hal := (Below.refl wr.heap.size wr).alloc (Nat.le_refl _) (.cells #[.int .i64 kk, .int .i64 nn, .slice s1 bb.length c1] 31)
        have G1 := Lib.hid (lDo11_any (.slice s1 bb.length c1) bb kk nn _ (ht.al (.cells #[.int .i64 kk, .int .i64 nn, .slice s1 bb.length c1] 31)) (RowsAt.kept hx hal) (by omega))
        have HST := Lib.hid (show _ from ⟨hb.kept hal, Blk.new wr [.int .i64 kk, .int .i64 nn, .slice s1 bb.length c1] 31, RowsAt.kept hB hal, hbel.alloc hbel.size (.cells #[.int .i64 kk, .int .i64 nn, .slice s1 bb.length c1] 31), hb.lt, ht.lt⟩ :
          Blk (wr.alloc (.cells #[.int .i64 kk, .int .i64 nn, .slice s1 bb.length c1] 31)) q [.slice aB T.length cB, .int .i64 (H.length : Int)] ∧
          Blk (wr.alloc (.cells #[.int .i64 kk, .int .i64 nn, .slice s1 bb.length c1] 31)) wr.heap.size [.int .i64 kk, .int .i64 nn, .slice s1 bb.length c1] ∧
          BytesAt (wr.alloc (.cells #[.int .i64 kk, .int .i64 nn, .slice s1 bb.length c1] 31)) (.slice aB T.length cB) T ∧
          Below w.heap.size w (wr.alloc (.cells #[.int .i64 kk, .int .i64 nn, .slice s1 bb.length c1] 31)) ∧ q < wr.heap.size ∧ ∀ k, F k → k < wr.heap.size)
        have HF := Lib.hid hF
        have HO := Lib.hid ho
        have HQ := Lib.hid hq
        have HX := Lib.hid hx0
        clear hF ho hq hb hB hx hx0 hal hbel ht
        go_upto_region 8 with (go_at_call 8; (with_reducible refine G1.out.mono ?_); rintro e w2 ⟨rfl, vh', vl', F', ht1, hm1⟩; have HT1 := Lib.hid ht1; have HM1 := Lib.hid hm1; clear ht1 hm1)
        obtain ⟨b1, b2, b3, b4, b5, b6⟩ := HST.out
        have hB2 := b4.trans (HM1.out.only.below HF.out b4.size)
        have q2 := b1.same (HM1.out.only.block q (by simp; omega) HQ.out)
        have x2 := b2.same (HM1.out.only.block wr.heap.size (by simp) fun h => by have := b6 _ h; omega)
        have B2 := BytesAt.only b3 HM1.out.only (HO.out.mono fun k h => .inl h)
        have O2 : OffB (fun k => F' k ∨ k = q) (.slice aB T.length cB) T := fun h0 g hg h => by
          rcases h with h | h
          · exact (HO.out.mono (Y := F) fun k h => .inl h).mv b3 HM1.out h0 g hg h
          · exact HO.out h0 g hg (.inr h)
        have N2 : ¬ F' q := HM1.out.off (by simp; omega) HQ.out
        have F2 := HM1.out.from_ HF.out b4.size
        have hbd := tHL_len H L kk nn bb
        have G2 := Lib.hid (refDo_any (.slice aB T.length cB) (.slice s1 bb.length c1) H L bb kk nn w2 (by rw [HTT.out]; exact B2) (HX.out.kept hB2) (by omega))
        have e0 := q2.cell 0 rfl
        have e1 := q2.cell 1 rfl
        have d0 := x2.cell 0 rfl
        have d1 := x2.cell 1 rfl
        have d2 := x2.cell 2 rfl
        have HQ2 := Lib.hid q2
        have HO2 := Lib.hid O2
        have HB2 := Lib.hid hB2
        have HN2 := Lib.hid N2
        have HF2 := Lib.hid F2
        have HBX := Lib.hid B2
        clear b1 b2 b3 b4 b5 b6 hB2 q2 x2 B2 O2 N2 F2 HST HM1 HQ HO HF G1
        obtain ⟨H', hH'⟩ : ∃ t, tH H L kk nn = t := ⟨_, rfl⟩
        obtain ⟨L', hL'⟩ : ∃ t, tL L kk bb = t := ⟨_, rfl⟩
        obtain ⟨E', hE'⟩ : ∃ t, tE H kk nn = t := ⟨_, rfl⟩
        rw [hH', hL'] at HT1 hbd
        rw [hH', hL', hE'] at G2
        rw [HTT.out] at G2
        obtain ⟨T', hT'⟩ : ∃ t, H' ++ L' = t := ⟨_, rfl⟩
        rw [hT'] at G2
        have HTT' := Lib.hid hT'
        simp only [hE']
        clear hH' hL' hE' hT'
        go_upto_region 9 with (go_at_call 9; (with_reducible refine G2.out.mono ?_); rintro e w3 ⟨v3, rfl, hnb, hb3⟩; obtain ⟨a3, c3, e3⟩ := RowsAt.form hnb.1; subst e3; have HNB := Lib.hid hnb; have HB3 := Lib.hid hb3; have z0 := (HQ2.out.kept hb3).free 0 rfl; have z1 := (HQ2.out.kept hb3).free 1 rfl; have j0 := (HQ2.out.kept hb3).cell 0 rfl; have j1 := (HQ2.out.kept hb3).cell 1 rfl; clear hnb hb3)
        clear z0 z1 j0 j1 e0 e1 d0 d1 d2
        have r2 := ((HQ2.out.kept HB3.out).set 0 (.slice a3 T'.length c3)).set 1 (.int .i64 (H'.length : Int))
        have t2 := ((HT1.out.kept HB3.out).away ⟨q, 0, none⟩ (.slice a3 T'.length c3) HN2.out).away ⟨q, 1, none⟩ (.int .i64 (H'.length : Int)) HN2.out
        have hlt1 := HT1.out.lt
        have hql := HQ2.out.lt
        have o2 : OffB (fun k => F' k ∨ k = q) (.slice a3 T'.length c3) T' := fun h0 g hg h => by
          rcases HNB.out.2 with ⟨e1, e2⟩ | h3
          · rw [e1] at hg
            rw [e2] at h0
            exact HO2.out h0 g hg h
          · have h4 := h3 g hg
            rcases h with h | h
            · have := hlt1 g h
              omega
            · omega
        have b2 := (BytesAt.away HNB.out.1 ⟨q, 0, none⟩ (.slice a3 T'.length c3) (o2.mono fun k h => .inr h)).away ⟨q, 1, none⟩ (.int .i64 (H'.length : Int)) (o2.mono fun k h => .inr h)
        have hqw : w.heap.size ≤ q := HQW.out
        have hB4 := ((HB2.out.trans (HB3.out.mono HB2.out.size)).setCell (p := ⟨q, 0, none⟩) hqw (.slice a3 T'.length c3)).setCell (p := ⟨q, 1, none⟩) hqw (.int .i64 (H'.length : Int))
        generalize (w3.setCell ⟨q, 0, none⟩ (.slice a3 T'.length c3)).setCell ⟨q, 1, none⟩ (.int .i64 (H'.length : Int)) = w4 at *
        have i0 := r2.cell 0 rfl
        have i1 := r2.cell 1 rfl
        have hlen : T'.length = H'.length + L'.length := by rw [← HTT'.out, List.length_append]
        have hlenI : (T'.length : Int) = (H'.length : Int) + (L'.length : Int) := by omega
        have CBy := Lib.hid fun (n : In w4) => (tBytes_any n.w (t2.kept n.h) (by omega)).mono fun e w' h => (show ∃ v, e = .returned v ∧ OwnO w' 1 csB v T' ∧ (∀ g, v.ownBlock = some g → n.w.heap.size ≤ g) ∧ Below n.w.heap.size n.w w' by
          obtain ⟨v, h1, h2, h3⟩ := h
          rw [HTT'.out] at h2
          exact ⟨v, h1, OwnR.own h2, fun g hg => (h2.lt g hg).1, h3⟩)
        have CL := Lib.hid fun (n : In w4) => (show Calls Try.prog 11 #[ptr p] n.w fun e w' => e = .returned (.int .i64 (T'.length : Int)) ∧ Below n.w.heap.size n.w w' by
          rw [hlenI]
          exact tLen_any n.w (t2.kept n.h) (by omega))
        have CS := Lib.hid fun (n : In w4) => tSure_any n.w (t2.kept n.h)
        have CV := Lib.hid fun (n : In w4) => str_of_bytes (RowsAt.kept b2 n.h)
        have HR2 := Lib.hid r2
        have HT2 := Lib.hid t2
        have HO4 := Lib.hid o2
        have HB4 := Lib.hid hB4
        have HV4 := Lib.hid b2
        clear r2 t2 o2 hB4 b2 hlenI hlen hlt1 hql HT1 HQ2 HO2 HNB HB3 HB2 HBX
        refine wp_region_chain 27 [.calm 5, .own (Lk.list w4.heap.size 1 csB T'.length T'), .own (Lk.val1 (.string ⟨T'.toArray⟩)), .calm 20] [5, 6] rfl (by kernel_rfl) (by simp) (by kernel_rfl) (by kernel_rfl) ?_
        simp only [List.take_succ_cons, List.take_zero, List.drop_succ_cons, List.drop_zero]
        refine ⟨by simp, fun M => ?_⟩
        simp only [List.take_succ_cons, List.take_zero, List.drop_succ_cons, List.drop_zero]
        repeat (go_big_quiet_step (fail))
        refine wpQuiet_nil ?_
        clear M
        refine ⟨rfl, Lk.at_call rfl (f := 10) (args := #[ptr p]) _ _ rfl (fun k => by simp [go_sem]) CBy.out, fun x1 A hA => ?_⟩
        simp [Act.put, Lk.list] at hA
        subst hA
        refine ⟨rfl, Lk.at_val (fun k hk => by have := str_of_bytes (hk.1.rows csB_len); simp [go_sem, this]), fun x2 A hA => ?_⟩
        simp [Act.put, Lk.val1] at hA
        subst hA
        refine ⟨by simp, fun M => ?_⟩
        simp only [List.take_succ_cons, List.take_zero, List.drop_succ_cons, List.drop_zero]
        have m0 := fun n : In M.w => n.cell (M.cell i0)
        have m1 := fun n : In M.w => n.cell (M.cell i1)
        have mV : ∀ n : In M.w, (convert 27 9 (.slice a3 T'.length c3)).run Try.prog n.w = .ok (.string ⟨T'.toArray⟩) n.w := fun n => CV.out (In.within n)
        have mL : Hid (∀ n : In M.w, Calls Try.prog 11 #[ptr p] n.w fun e w' => e = .returned (.int .i64 (T'.length : Int)) ∧ Below n.w.heap.size n.w w') := Lib.hid fun n => CL.out (In.within n)
        have mS : Hid (∀ n : In M.w, Calls Try.prog 12 #[ptr p] n.w fun e w' => e = .returned (.int .i64 (H'.length : Int)) ∧ Below n.w.heap.size n.w w') := Lib.hid fun n => CS.out (In.within n)
        repeat (go_big_quiet_step (first
          | (go_at_call 11; with_reducible exact In.call (mL.out _))
          | (go_at_call 12; with_reducible exact In.call (mS.out _))))
        refine wpQuiet_nil ?_
        clear m0 m1 mV mL mS M i0 i1 CV CL CS CBy
        refine ⟨rfl, fun w5 hb5 _ => ?_⟩
        have HS5 := Lib.hid (show Side w p q w5 H' L' from ⟨⟨F', vh', vl', HT2.out.kept hb5, HN2.out, HF2.out, .slice a3 T'.length c3, by have := HR2.out.kept hb5; simpa using this, by rw [HTT'.out]; exact RowsAt.kept HV4.out hb5, by rw [HTT'.out]; exact HO4.out⟩, HB4.out.trans (hb5.mono HB4.out.size)⟩)
        clear hb5
        go_wp2
        go_roundw
        case rel => exact ⟨k + 1, H', L', by omega, by go_num, HS5.out, by omega⟩
        case measure => simp [intOf] <;> omega
      · have hke : k = l.length := by omega
        subst hke
        have HBW := Lib.hid hS.below
        clear hS
        go_wp2_with (go_at_call 6; (with_reducible refine (HAL.out _).mono ?_); rintro e w8 ⟨rfl, hb⟩)
        go_ret
        exact ⟨rfl, HBW.out.trans (hb.mono HBW.out.size)⟩
  · rw [decide_eq_false hw] at hfew
    go_enter Try.func3, Try.ntmps3
    go_wp2_with (first
      | (go_at_call 5; (with_reducible refine hfew.out.mono ?_); rintro e w0 ⟨rfl, rfl⟩)
      | (go_at_call 6; (with_reducible refine (HAL.out _).mono ?_); rintro e w1 ⟨rfl, hb⟩))
    go_ret
    exact ⟨rfl, hb⟩
end Go.Proofs.Ytgfcgabaacdjlaa
