/- Stage 13's program: its state; what is laid at a place. -/
import Derived.Test.YtnfdhlkngjplkaaHeapRefC
import Derived.Test.YtnfdhlkngjplkaaHeapBin
import Derived.Test.YtnfdhlkngjplkaaMapN
import Derived.Test.YtnfdhlkngjplkaaOwnSet
import Derived.Test.YtnfdhlkngjplkaaLabels
import Derived.Test.YtnfdhlkngjplkaaOff
namespace Go.Proofs.Ytnfdhlkngjplkaa
open Go.RowKit

abbrev ptr13 (p : Nat) : Value := .pointer (some ⟨p, 0, none⟩)
/-- the heap's block, its row of things, its map of m places; all its blocks are of F -/
structure RawAt (F : Nat → Prop) (w : World) (p : Nat) (v : Value) (b : Nat) (T : List Th) (m : Nat) (g : Int → Option Nat) : Prop where
  blk : Blk w p [v, .map (some b)]
  own : OwnO w 3 csT v T
  map : MapN w b m g
  fp : F p
  fb : F b
  fv : ∀ k, v.ownBlock = some k → F k ∧ k ≠ p ∧ k ≠ b
  lt : ∀ k, F k → k < w.heap.size
theorem Only.drew {F : Nat → Prop} {w w' : World} (h : Only F w w') : Only F w w'.drew := ⟨h.os, h.tape, h.output, h.size, h.block⟩
theorem Blk.drew {w : World} {b : Nat} {vs : List Value} (h : Blk w b vs) : Blk w.drew b vs := h
theorem OwnO.drew {α : Type} {w : World} {K : Nat} {cs : α → List Value} {v : Value} {l : List α} (h : OwnO w K cs v l) : OwnO w.drew K cs v l := h.same (Nat.le_refl _) fun _ _ => rfl
section
variable {F : Nat → Prop} {w w' : World} {p : Nat} {v : Value} {b m : Nat} {T : List Th} {g : Int → Option Nat}
theorem RawAt.ne (h : RawAt F w p v b T m g) : b ≠ p := MapN.ne_cell h.map (h.blk.cell 0 rfl)
theorem RawAt.kept (h : RawAt F w p v b T m g) (hb : Below w.heap.size w w') : RawAt F w' p v b T m g :=
  ⟨h.blk.kept hb, h.own.kept hb, h.map.kept hb, h.fp, h.fb, h.fv, fun k hk => Nat.lt_of_lt_of_le (h.lt k hk) hb.size⟩
/-- a longer row, in new memory or where the old one was -/
theorem RawAt.grow {w1 w2 : World} {v' : Value} {T' : List Th} (h : RawAt F w p v b T m g) (hb : Below w.heap.size w w1) (ho : OwnO w2 3 csT v' T') (hg : w1.grownBy w2 v.ownBlock) (hv : v'.ownBlock = v.ownBlock ∨ v'.ownBlock = some w1.heap.size) :
    RawAt (fun k => F k ∨ v'.ownBlock = some k) (w2.setCell ⟨p, 0, none⟩ v') p v' b T' m g ∧ Mv F (fun k => F k ∨ v'.ownBlock = some k) w (w2.setCell ⟨p, 0, none⟩ v') := by
  have hsz := hb.size
  have hp := h.lt p h.fp
  have hbl := h.lt b h.fb
  have hpn : some p ≠ v.ownBlock := fun e => (h.fv p e.symm).2.1 rfl
  have hbn : some b ≠ v.ownBlock := fun e => (h.fv b e.symm).2.2 rfl
  have hk : ∀ k, v'.ownBlock = some k → k ≠ p ∧ k ≠ b ∧ (F k ∨ w.heap.size ≤ k) := fun k hk => by
    rcases hv with e | e
    · have := h.fv k (e ▸ hk)
      exact ⟨this.2.1, this.2.2, .inl this.1⟩
    · rw [e] at hk
      cases hk
      exact ⟨by omega, by omega, .inr hsz⟩
  refine ⟨⟨?_, ?_, ?_, .inl h.fp, .inl h.fb, fun k e => ⟨.inr e, (hk k e).1, (hk k e).2.1⟩, fun k e => ?_⟩, ⟨?_, fun k e => ?_⟩⟩
  · have := ((h.blk.kept hb).grown hg hpn).set 0 v'
    simpa using this
  · exact ho.away _ _ fun k e => (hk k e).1
  · exact ((h.map.kept hb).grown hg hbn).away _ _ fun e => h.ne e
  · have e1 : (w2.setCell ⟨p, 0, none⟩ v').heap.size = w2.heap.size := by simp [World.setCell]
    rw [e1]
    rcases e with e | e
    · exact Nat.lt_of_lt_of_le (h.lt k e) (Nat.le_trans hsz hg.size)
    · exact ho.lt k e
  · exact ((Only.of_below hb).trans (Only.grown hg fun k e => (h.fv k e).1)).set _ _ h.fp
  · rcases e with e | e
    · exact .inl e
    · exact (hk k e).2.2
end
theorem Pos.some {T : List Th} {g : Int → Option Nat} (h : Pos T g) {i : Nat} (hi : i < T.length) : g (tg T i).id = some i := (h _ _).2 ⟨hi, rfl⟩
/-- what stands at a place -/
theorem OwnO.th {w : World} {v : Value} {T : List Th} (h : OwnO w 3 csT v T) (i : Nat) (hi : i < T.length) : ∃ g o cap, v = .slice (some ⟨g, o, none⟩) T.length cap ∧ T.length ≤ cap ∧
    (w.cell? ⟨g, o + i * 3, none⟩ = some (.int .i64 (tg T i).id) ∧ w.cell? ⟨g, o + i * 3 + 1, none⟩ = some (.int .i64 (tg T i).key) ∧ w.cell? ⟨g, o + i * 3 + 2, none⟩ = some (.int .i64 (tg T i).seq)) ∧
    w.frozen? ⟨g, o + i * 3, none⟩ = false ∧ w.frozen? ⟨g, o + i * 3 + 1, none⟩ = false ∧ w.frozen? ⟨g, o + i * 3 + 2, none⟩ = false := by
  obtain ⟨g, o, cap, e, _, hl, hc⟩ := h.spot csT_len i hi
  rw [tg_get _ _ hi]
  have h0 := hc 0 _ rfl
  have h1 := hc 1 _ rfl
  have h2 := hc 2 _ rfl
  exact ⟨g, o, cap, e, hl, ⟨h0.1, h1.1, h2.1⟩, h0.2, h1.2, h2.2⟩

set_option maxHeartbeats 4000000 in
set_option maxRecDepth 100000 in
/-- set: y is laid at i -/
theorem hSet_any {F : Nat → Prop} {p : Nat} {v : Value} {b m : Nat} {T : List Th} {g : Int → Option Nat} (i : Nat) (y : Th) (w : World) (h : RawAt F w p v b T m g) (hi : i < T.length) (hn : T.length ≤ 1000000) (hm : m ≤ 1000000) (hy : I64 y.id) :
    Calls Try.prog 62 #[ptr13 p, .int .i64 (i : Int), .agg #[.int .i64 y.id, .int .i64 y.key, .int .i64 y.seq]] w fun e w' => e = .returned (.tuple #[]) ∧ RawAt F w' p v b (T.set i y) (if (g y.id).isSome then m else m + 1) (upd g y.id (some i)) ∧ Only F w w' := by
  obtain ⟨y1, y2, y3⟩ := y
  simp only at hy ⊢
  obtain ⟨m', hm'⟩ : ∃ m', (if (g y1).isSome then m else m + 1) = m' := ⟨_, rfl⟩
  rw [hm']
  have HME := Lib.hid hm'
  clear hm'
  have hal := (Below.refl w.heap.size w).alloc (Nat.le_refl _) (.cells #[.int .i64 y1, .int .i64 y2, .int .i64 y3] 77)
  have hbx := Blk.new w [.int .i64 y1, .int .i64 y2, .int .i64 y3] 77
  have ha := h.kept hal
  have hwa := Only.of_below (F := F) hal
  have hpx : w.heap.size ≠ p := fun e => by have := h.lt p h.fp; omega
  generalize hWA : w.alloc (.cells #[.int .i64 y1, .int .i64 y2, .int .i64 y3] 77) = wa at *
  obtain ⟨gb, o, cap, rfl, hl, ⟨i0, i1, i2⟩, z0, z1, z2⟩ := ha.own.th i hi
  have hgx : w.heap.size ≠ gb := fun e => by have := h.lt gb (h.fv gb rfl).1; omega
  have ho1 := OwnO.put3 csT_len ha.own i hi ⟨y1, y2, y3⟩ (.int .i64 y1) (.int .i64 y2) (.int .i64 y3) rfl
  have p0 := ha.blk.cell 0 rfl
  have x0 := hbx.cell 0 rfl
  have x1 := hbx.cell 1 rfl
  have x2 := hbx.cell 2 rfl
  have I0 : (0 : Int) ≤ (i : Int) := by omega
  have I1 : (i : Int) < (T.length : Int) := by omega
  have hgp : p ≠ gb := fun e => (h.fv gb rfl).2.1 e.symm
  have hgb : b ≠ gb := fun e => (h.fv gb rfl).2.2 e.symm
  have hbp : b ≠ p := h.ne
  have hfg : F gb := (h.fv gb rfl).1
  have HO1 := Lib.hid ho1.drew
  have HR0 := Lib.hid (((ha.blk.away ⟨gb, o + i * 3, none⟩ (.int .i64 y1) hgp).away ⟨gb, o + i * 3 + 1, none⟩ (.int .i64 y2) hgp).away ⟨gb, o + i * 3 + 2, none⟩ (.int .i64 y3) hgp).drew
  have HX0 := Lib.hid (((hbx.away ⟨gb, o + i * 3, none⟩ (.int .i64 y1) hgx).away ⟨gb, o + i * 3 + 1, none⟩ (.int .i64 y2) hgx).away ⟨gb, o + i * 3 + 2, none⟩ (.int .i64 y3) hgx).drew
  have HM0 := Lib.hid (MapN.drew (((MapN.away ha.map ⟨gb, o + i * 3, none⟩ (.int .i64 y1) hgb).away ⟨gb, o + i * 3 + 1, none⟩ (.int .i64 y2) hgb).away ⟨gb, o + i * 3 + 2, none⟩ (.int .i64 y3) hgb))
  have HY0 := Lib.hid (((hwa.set ⟨gb, o + i * 3, none⟩ (.int .i64 y1) hfg).set ⟨gb, o + i * 3 + 1, none⟩ (.int .i64 y2) hfg).set ⟨gb, o + i * 3 + 2, none⟩ (.int .i64 y3) hfg).drew
  have H := Lib.hid h
  have HY := Lib.hid hy
  have HWA := Lib.hid hWA
  clear ho1 h hi ha hwa hal hbx hy hWA
  go_enter Try.func62, Try.ntmps62
  go_wp2
  rw [HWA.out]
  go_wp2
  go_region
  clear i0 i1 i2 z0 z1 z2 p0 x0 x1 x2
  generalize World.drew _ = W1 at *
  have e0 := HR0.out.cell 1 rfl
  have x0 := HX0.out.cell 0 rfl
  go_wp2
  refine wp_region_calmT 7 (by kernel_rfl) (by simp) (by kernel_rfl) fun M => ?_
  simp only [List.take_succ_cons, List.take_zero, List.drop_succ_cons, List.drop_zero]
  have m0 := fun n : In M.w => n.cell (M.cell e0)
  have m1 := fun n : In M.w => n.cell (M.cell x0)
  repeat (go_big_quiet_step (fail))
  refine wpQuiet_nil ?_
  clear m0 m1 M
  intro w2 hb2
  have HR2 := Lib.hid (HR0.out.kept hb2)
  have HO3 := Lib.hid (HO1.out.kept hb2)
  have HM2 := Lib.hid (MapN.kept HM0.out hb2)
  have HY2 := Lib.hid (HY0.out.trans (Only.of_below hb2))
  clear hb2 HR0 HO1 HM0 HY0 e0 x0 HX0
  go_wp2_with (at_mapUpdate; refine wpList_putN rfl rfl _ _ _ rfl rfl HM2.out hm _ HY.out rfl i (by omega) rfl ?_; intro w3 hm3 hg3; rw [HME.out] at hm3)
  have hne3 : some p ≠ some b := fun e => hbp (by injection e with e; exact e.symm)
  have HY3 := HY2.out.trans (Only.grown hg3 (fun k e => by injection e with e; subst e; exact H.out.fb))
  have hfin : RawAt F w3 p (.slice (some ⟨gb, o, none⟩) T.length cap) b (T.set i ⟨y1, y2, y3⟩) m' (upd g y1 (some i)) :=
    ⟨HR2.out.grown hg3 hne3, HO3.out.grown hg3 (fun k hk e => by simp [Value.ownBlock] at hk; injection e with e; exact hgb (by omega)), hm3, H.out.fp, H.out.fb, H.out.fv, fun k hk => Nat.lt_of_lt_of_le (H.out.lt k hk) HY3.size⟩
  have HF := Lib.hid hfin
  have HZ := Lib.hid HY3
  clear hm3 hg3 HY3 hfin HR2 HO3 HM2 HY2
  go_wp2
  go_end0
  exact ⟨rfl, HF.out, HZ.out⟩
end Go.Proofs.Ytnfdhlkngjplkaa
