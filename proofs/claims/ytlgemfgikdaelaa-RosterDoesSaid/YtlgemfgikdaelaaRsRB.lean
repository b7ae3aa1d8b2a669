/- Stage 25's document: Add. -/
import Derived.Test.YtlgemfgikdaelaaRsRA
namespace Go.Proofs.Ytlgemfgikdaelaa
open Go.RowKit

/-- the document's roster: room, hands, who is busy -/
abbrev ruv (room : Int) (hv bv : Value) : Value := .agg #[.int .i64 room, hv, bv]
/-- hands that a call hands back: those that were, or in new memory -/
def FrH (w : World) (hv : Value) (L : List En) (hv' : Value) (L' : List En) : Prop := (hv' = hv ∧ L' = L) ∨ ∀ k, hv'.ownBlock = some k → w.heap.size ≤ k
/-- a call's copy of a roster, and what it will hand back -/
structure RuW (w W : World) (room : Int) (hv bv : Value) : Prop where
  u : Blk W w.heap.size [.int .i64 room, hv, bv]
  z : Blk W (w.heap.size + 1) [.int .i64 0, .slice none 0 0, .slice none 0 0]
  b : Below w.heap.size w W
theorem RuW.start (w : World) (room : Int) (hv bv : Value) : RuW w ((w.alloc (.cells #[.int .i64 room, hv, bv] 31)).alloc (.cells #[.int .i64 0, .slice none 0 0, .slice none 0 0] 31)) room hv bv := by
  have h1 := Blk.new w [.int .i64 room, hv, bv] 31
  change Blk (w.alloc (.cells #[.int .i64 room, hv, bv] 31)) _ _ at h1
  have b1 := (Below.refl w.heap.size w).alloc (Nat.le_refl _) (.cells #[.int .i64 room, hv, bv] 31)
  have s1 : (w.alloc (.cells #[.int .i64 room, hv, bv] 31)).heap.size = w.heap.size + 1 := by simp
  generalize w.alloc (.cells #[.int .i64 room, hv, bv] 31) = W1 at *
  have h2 := Blk.new W1 [.int .i64 0, .slice none 0 0, .slice none 0 0] 31
  change Blk (W1.alloc (.cells #[.int .i64 0, .slice none 0 0, .slice none 0 0] 31)) _ _ at h2
  have b2 := (Below.refl W1.heap.size W1).alloc (Nat.le_refl _) (.cells #[.int .i64 0, .slice none 0 0, .slice none 0 0] 31)
  rw [s1] at h2
  exact ⟨h1.kept b2, h2, b1.trans (b2.mono b1.size)⟩
theorem RuW.kept {w W W' : World} {room : Int} {hv bv : Value} (h : RuW w W room hv bv) (hb : Below W.heap.size W W') : RuW w W' room hv bv := ⟨h.u.kept hb, h.z.kept hb, h.b.trans (hb.mono h.b.size)⟩
/-- what is handed back -/
theorem RuW.give {w W : World} {room : Int} {hv bv : Value} (h : RuW w W room hv bv) (a b c : Value) :
    ∃ W', ((W.setCell ⟨w.heap.size + 1, 0, none⟩ a).setCell ⟨w.heap.size + 1, 1, none⟩ b).setCell ⟨w.heap.size + 1, 2, none⟩ c = W' ∧ W'.cell? ⟨w.heap.size + 1, 0, none⟩ = some a ∧ W'.cell? ⟨w.heap.size + 1, 1, none⟩ = some b ∧ W'.cell? ⟨w.heap.size + 1, 2, none⟩ = some c ∧
      Below w.heap.size w W' ∧ Only (fun k => k = w.heap.size + 1) W W' := by
  have hB := ((h.z.set 0 a).set 1 b).set 2 c
  refine ⟨_, rfl, hB.cell 0 rfl, hB.cell 1 rfl, hB.cell 2 rfl, ?_, ?_⟩
  · exact ((h.b.setCell (p := ⟨w.heap.size + 1, 0, none⟩) (by show w.heap.size ≤ w.heap.size + 1; omega) a).setCell (p := ⟨w.heap.size + 1, 1, none⟩) (by show w.heap.size ≤ w.heap.size + 1; omega) b).setCell (p := ⟨w.heap.size + 1, 2, none⟩) (by show w.heap.size ≤ w.heap.size + 1; omega) c
  · exact (((Only.refl (fun k => k = w.heap.size + 1) W).set ⟨w.heap.size + 1, 0, none⟩ a rfl).set ⟨w.heap.size + 1, 1, none⟩ b rfl).set ⟨w.heap.size + 1, 2, none⟩ c rfl
theorem RuW.put1 {w W : World} {room : Int} {hv bv : Value} (h : RuW w W room hv bv) (v : Value) : RuW w (W.setCell ⟨w.heap.size, 1, none⟩ v) room v bv :=
  ⟨h.u.set 1 v, h.z.away _ _ (by show w.heap.size + 1 ≠ w.heap.size; omega), h.b.setCell (p := ⟨w.heap.size, 1, none⟩) (Nat.le_refl _) v⟩
theorem RuW.put2 {w W : World} {room : Int} {hv bv : Value} (h : RuW w W room hv bv) (v : Value) : RuW w (W.setCell ⟨w.heap.size, 2, none⟩ v) room hv v :=
  ⟨h.u.set 2 v, h.z.away _ _ (by show w.heap.size + 1 ≠ w.heap.size; omega), h.b.setCell (p := ⟨w.heap.size, 2, none⟩) (Nat.le_refl _) v⟩
/-- a list of a call's own is as it was, whatever is written into the two blocks -/
theorem RuW.rows {α : Type} {w W2 W W' : World} {room : Int} {hv bv : Value} {e : TypeId} {K : Nat} {cs : α → List Value} (hK : ∀ x, (cs x).length = K) {v : Value} {l : List α} (h : RuW w W2 room hv bv) (ho : OwnR W W2.heap.size e K cs v l) (hq : Only (fun k => k = w.heap.size ∨ k = w.heap.size + 1) W W') : RowsAt W' K cs v l :=
  (OwnR.rows hK ho).only hq (OwnR.off ho fun k hk => by
    have := h.z.lt
    omega)

set_option maxHeartbeats 4000000 in
set_option maxRecDepth 100000 in
theorem refAdd25_any (hv bv : Value) (room : Int) (L : List En) (n : Int) (b : Nat) (w : World) (ha : RowsAt w 3 csHd hv (viewE L)) (hbv : ∃ q i j, bv = .slice q i j) (hok : RsOk L) (hl : L.length ≤ 16) :
    Calls Try.prog 9 #[ruv room hv bv, .int .i64 n, .int .u64 (b : Int)] w fun e w' => ∃ hv', e = .returned (.tuple #[ruv room hv' bv, .int .i64 (addE room L n b).2]) ∧
      RowsAt w' 3 csHd hv' (viewE (addE room L n b).1) ∧ FrH w hv L hv' (addE room L n b).1 ∧ Below w.heap.size w w' := by
  have hst := RuW.start w room hv bv
  obtain ⟨W2, hW2⟩ : ∃ W2, (w.alloc (.cells #[.int .i64 room, hv, bv] 31)).alloc (.cells #[.int .i64 0, .slice none 0 0, .slice none 0 0] 31) = W2 := ⟨_, rfl⟩
  rw [hW2] at hst
  have HW2 := Lib.hid hW2
  obtain ⟨q2, i2, j2, rfl⟩ := hbv
  obtain ⟨q1, j1, rfl⟩ := RowsAt.form ha
  have GI := Lib.hid (refID25_any n W2)
  have GF := Lib.hid (refFind25_any _ L n W2 (RowsAt.below ha (Nat.le_refl _) hst.b) hok hl)
  have HST := Lib.hid hst
  have HA := Lib.hid fun w' (hb : Below w.heap.size w w') => RowsAt.below ha (Nat.le_refl _) hb
  have c0 := hst.u.cell 0 rfl
  have c1 := hst.u.cell 1 rfl
  have c2 := hst.u.cell 2 rfl
  have z0 := hst.z.cell 0 rfl
  have z1 := hst.z.cell 1 rfl
  have z2 := hst.z.cell 2 rfl
  have f0 := hst.z.free 0 rfl
  have f1 := hst.z.free 1 rfl
  have f2 := hst.z.free 2 rfl
  have hplc : plcE L n = if hasE L n then ((befE L n : Nat) : Int) else -1 := rfl
  unfold addE
  by_cases hn : 1 ≤ n ∧ n ≤ 999
  · have hid : idB n = true := decide_eq_true hn
    rw [if_neg (Classical.not_not.2 hn)]
    rw [hid] at GI
    cases hh : hasE L n with
    | true =>
      rw [hh, if_pos rfl] at hplc
      rw [hplc] at GF
      have p0 : (0 : Int) ≤ ((befE L n : Nat) : Int) := by omega
      rw [if_pos rfl]
      generalize ((befE L n : Nat) : Int) = pl at *
      obtain ⟨W9, e9, y0, y1, y2, hb9, -⟩ := hst.give (.int .i64 room) (.slice q1 (viewE L).length j1) (.slice q2 i2 j2)
      have E9 := Lib.hid e9
      have Y := Lib.hid (And.intro y0 (And.intro y1 y2))
      have HB9 := Lib.hid hb9
      clear hn hid hplc hst hW2 ha hok hl e9 y0 y1 y2 hb9 hh
      go_enter Try.func9, Try.ntmps9
      go_upto_region 1 with fail
      rw [HW2.out]
      go_wp2_with (first
        | (go_at_call 28; (with_reducible refine GI.out.mono ?_); rintro e w1 ⟨rfl, rfl⟩)
        | (go_at_call 22; (with_reducible refine GF.out.mono ?_); rintro e w1 ⟨rfl, rfl⟩))
      rw [E9.out]
      exact bodyPost_ret (v := .tuple #[.agg #[.int .i64 room, .slice q1 (viewE L).length j1, .slice q2 i2 j2], .int .i64 6]) (by simp [results, Try.results9, go_sem, Y.out.1, Y.out.2.1, Y.out.2.2]) rfl ⟨_, rfl, HA.out _ HB9.out, .inl ⟨rfl, rfl⟩, HB9.out⟩
    | false =>
      rw [hh, if_neg (by simp)] at hplc
      rw [hplc] at GF
      rw [if_neg (by simp)]
      have hvl := viewE_len L
      by_cases hr : room ≤ (L.length : Int)
      · rw [if_pos hr]
        have r1 : room ≤ ((viewE L).length : Int) := by omega
        obtain ⟨W9, e9, y0, y1, y2, hb9, -⟩ := hst.give (.int .i64 room) (.slice q1 (viewE L).length j1) (.slice q2 i2 j2)
        have E9 := Lib.hid e9
        have Y := Lib.hid (And.intro y0 (And.intro y1 y2))
        have HB9 := Lib.hid hb9
        clear hn hid hplc hst hW2 ha hok hl e9 y0 y1 y2 hb9 hh hr hvl
        go_enter Try.func9, Try.ntmps9
        go_upto_region 1 with fail
        rw [HW2.out]
        go_wp2_with (first
          | (go_at_call 28; (with_reducible refine GI.out.mono ?_); rintro e w1 ⟨rfl, rfl⟩)
          | (go_at_call 22; (with_reducible refine GF.out.mono ?_); rintro e w1 ⟨rfl, rfl⟩))
        rw [E9.out]
        exact bodyPost_ret (v := .tuple #[.agg #[.int .i64 room, .slice q1 (viewE L).length j1, .slice q2 i2 j2], .int .i64 9]) (by simp [results, Try.results9, go_sem, Y.out.1, Y.out.2.1, Y.out.2.2]) rfl ⟨_, rfl, HA.out _ HB9.out, .inl ⟨rfl, rfl⟩, HB9.out⟩
      · rw [if_neg hr]
        have r1 : ¬ room ≤ ((viewE L).length : Int) := by omega
        have GN := Lib.hid (refInsert25_any _ L ⟨n, b, true, false⟩ W2 (RowsAt.below ha (Nat.le_refl _) hst.b) hok hl hh)
        dsimp only [hdv, En.hd] at GN
        generalize viewE (insE L ⟨n, b, true, false⟩) = H' at *
        clear hn hid hplc hst hW2 ha hok hl hh hr hvl c0 c1 c2 z0 z1 z2 f0 f1 f2
        have c0 := HST.out.u.cell 0 rfl
        have c1 := HST.out.u.cell 1 rfl
        go_enter Try.func9, Try.ntmps9
        go_upto_region 1 with fail
        rw [HW2.out]
        go_wp2_with (first
          | (go_at_call 28; (with_reducible refine GI.out.mono ?_); rintro e w1 ⟨rfl, rfl⟩)
          | (go_at_call 22; (with_reducible refine GF.out.mono ?_); rintro e w1 ⟨rfl, rfl⟩)
          | (go_at_call 29; (with_reducible refine GN.out.mono ?_); rintro e w3 ⟨v3, rfl, ho, hb⟩; obtain ⟨a3, i3, e⟩ := RowsAt.form (OwnR.rows csHd_len ho); subst e; have HR3 := Lib.hid (HST.out.kept hb); have HO3 := Lib.hid ho; have c0 := HR3.out.u.cell 0 rfl; have c1 := HR3.out.u.cell 1 rfl; have c2 := HR3.out.u.cell 2 rfl; have g1 := HR3.out.u.free 1 rfl; have z0 := HR3.out.z.cell 0 rfl; have z1 := HR3.out.z.cell 1 rfl; have z2 := HR3.out.z.cell 2 rfl; have f0 := HR3.out.z.free 0 rfl; have f1 := HR3.out.z.free 1 rfl; have f2 := HR3.out.z.free 2 rfl; clear ho hb))
        have hp := HR3.out.put1 (.slice a3 H'.length i3)
        obtain ⟨W9, e9, y0, y1, y2, hb9, ho9⟩ := hp.give (.int .i64 room) (.slice a3 H'.length i3) (.slice q2 i2 j2)
        rw [e9]
        have hq := (((Only.refl (fun k => k = w.heap.size ∨ k = w.heap.size + 1) w3).set ⟨w.heap.size, 1, none⟩ (.slice a3 H'.length i3) (.inl rfl)).trans (ho9.mono fun k h => .inr h))
        exact bodyPost_ret (v := .tuple #[.agg #[.int .i64 room, .slice a3 H'.length i3, .slice q2 i2 j2], .int .i64 0]) (by simp [results, Try.results9, go_sem, y0, y1, y2]) rfl
          ⟨_, rfl, HST.out.rows csHd_len HO3.out hq, .inr fun k hk => Nat.le_trans HST.out.b.size (World.ownsRow.lt HO3.out k hk).1, hb9⟩
  · have hid : idB n = false := decide_eq_false hn
    rw [if_pos hn]
    rw [hid] at GI
    obtain ⟨W9, e9, y0, y1, y2, hb9, -⟩ := hst.give (.int .i64 room) (.slice q1 (viewE L).length j1) (.slice q2 i2 j2)
    have E9 := Lib.hid e9
    have Y := Lib.hid (And.intro y0 (And.intro y1 y2))
    have HB9 := Lib.hid hb9
    clear hn hid hplc hst hW2 ha hok hl e9 y0 y1 y2 hb9
    go_enter Try.func9, Try.ntmps9
    go_upto_region 1 with fail
    rw [HW2.out]
    go_wp2_with (go_at_call 28; (with_reducible refine GI.out.mono ?_); rintro e w1 ⟨rfl, rfl⟩)
    rw [E9.out]
    exact bodyPost_ret (v := .tuple #[.agg #[.int .i64 room, .slice q1 (viewE L).length j1, .slice q2 i2 j2], .int .i64 2]) (by simp [results, Try.results9, go_sem, Y.out.1, Y.out.2.1, Y.out.2.2]) rfl ⟨_, rfl, HA.out _ HB9.out, .inl ⟨rfl, rfl⟩, HB9.out⟩
end Go.Proofs.Ytlgemfgikdaelaa
