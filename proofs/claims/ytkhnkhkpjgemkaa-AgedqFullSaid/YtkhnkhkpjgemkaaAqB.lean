/- Stage 15's program: a queue in memory; ripen. -/
import Derived.Test.YtkhnkhkpjgemkaaAqA
import Derived.Test.YtkhnkhkpjgemkaaBun5
namespace Go.Proofs.Ytkhnkhkpjgemkaa
open Go.RowKit

abbrev aqc (n r : Int) (mb pg pf : Nat) : List Value := [.int .i64 n, .int .i64 r, .map (some mb), ptr13 pg, ptr13 pf]
/-- a queue's block, its map of items, its two heaps: apart from one another -/
structure QRaw (F Ff Fg : Nat → Prop) (w : World) (p : Nat) (n r : Int) (mb m : Nat) (G : Int → Option It) (pf : Nat) (Sf : List Th) (pg : Nat) (Sg : List Th) : Prop where
  blk : Blk w p (aqc n r mb pg pf)
  map : MapIt w mb m G
  hf : HeapAt Ff w pf Sf
  hg : HeapAt Fg w pg Sg
  fp : F p
  fm : F mb
  ff : ∀ k, Ff k → F k
  fg : ∀ k, Fg k → F k
  lt : ∀ k, F k → k < w.heap.size
  pf1 : ¬ Ff p
  pg1 : ¬ Fg p
  mf1 : ¬ Ff mb
  mg1 : ¬ Fg mb
  fd : ∀ k, Ff k → ¬ Fg k
section
variable {F Ff Fg Ff' Fg' : Nat → Prop} {w w' : World} {p : Nat} {n r : Int} {mb m m' : Nat} {G G' : Int → Option It} {pf : Nat} {Sf Sf' : List Th} {pg : Nat} {Sg Sg' : List Th}
theorem QRaw.ne (h : QRaw F Ff Fg w p n r mb m G pf Sf pg Sg) : mb ≠ p := MapIt.ne_cell h.map (h.blk.cell 0 rfl)
theorem QRaw.out (h : QRaw F Ff Fg w p n r mb m G pf Sf pg Sg) (hz : w.heap.size ≤ w'.heap.size) (he : ∀ k, F k → w'.heap[k]? = w.heap[k]?) : QRaw F Ff Fg w' p n r mb m G pf Sf pg Sg :=
  ⟨h.blk.same (he p h.fp), h.map.same (he mb h.fm), h.hf.out hz fun k hk => he k (h.ff k hk), h.hg.out hz fun k hk => he k (h.fg k hk), h.fp, h.fm, h.ff, h.fg, fun k hk => Nat.lt_of_lt_of_le (h.lt k hk) hz, h.pf1, h.pg1, h.mf1, h.mg1, h.fd⟩
theorem QRaw.kept (h : QRaw F Ff Fg w p n r mb m G pf Sf pg Sg) (hb : Below w.heap.size w w') : QRaw F Ff Fg w' p n r mb m G pf Sf pg Sg := h.out hb.size fun k hk => hb.block k (h.lt k hk)
/-- the heap of those that grow has changed -/
theorem QRaw.growing (h : QRaw F Ff Fg w p n r mb m G pf Sf pg Sg) (hg : HeapAt Fg' w' pg Sg') (hm : Mv Fg Fg' w w') :
    QRaw (fun k => F k ∨ Fg' k) Ff Fg' w' p n r mb m G pf Sf pg Sg' ∧ Mv F (fun k => F k ∨ Fg' k) w w' := by
  have hp := h.lt p h.fp
  have hmb := h.lt mb h.fm
  refine ⟨⟨h.blk.same (hm.only.block p hp h.pg1), h.map.same (hm.only.block mb hmb h.mg1), h.hf.out hm.only.size fun k hk => hm.only.block k (h.lt k (h.ff k hk)) (h.fd k hk), hg, .inl h.fp, .inl h.fm, fun k hk => .inl (h.ff k hk), fun k hk => .inr hk, fun k hk => ?_, h.pf1, hm.off hp h.pg1, h.mf1, hm.off hmb h.mg1, fun k hk => hm.off (h.lt k (h.ff k hk)) (h.fd k hk)⟩, hm.only.mono h.fg, fun k hk => ?_⟩
  · rcases hk with hk | hk
    · exact Nat.lt_of_lt_of_le (h.lt k hk) hm.only.size
    · exact hg.lt k hk
  · rcases hk with hk | hk
    · exact .inl hk
    · exact (hm.sub k hk).imp (h.fg k) fun x => x
/-- the heap of those that are full has changed -/
theorem QRaw.fulling (h : QRaw F Ff Fg w p n r mb m G pf Sf pg Sg) (hf : HeapAt Ff' w' pf Sf') (hm : Mv Ff Ff' w w') :
    QRaw (fun k => F k ∨ Ff' k) Ff' Fg w' p n r mb m G pf Sf' pg Sg ∧ Mv F (fun k => F k ∨ Ff' k) w w' := by
  have hp := h.lt p h.fp
  have hmb := h.lt mb h.fm
  have hd : ∀ k, Fg k → ¬ Ff k := fun k h1 h2 => h.fd k h2 h1
  refine ⟨⟨h.blk.same (hm.only.block p hp h.pf1), h.map.same (hm.only.block mb hmb h.mf1), hf, h.hg.out hm.only.size fun k hk => hm.only.block k (h.lt k (h.fg k hk)) (hd k hk), .inl h.fp, .inl h.fm, fun k hk => .inr hk, fun k hk => .inl (h.fg k hk), fun k hk => ?_, hm.off hp h.pf1, h.pg1, hm.off hmb h.mf1, h.mg1, fun k hk hk2 => hm.off (h.lt k (h.fg k hk2)) (hd k hk2) hk⟩, hm.only.mono h.ff, fun k hk => ?_⟩
  · rcases hk with hk | hk
    · exact Nat.lt_of_lt_of_le (h.lt k hk) hm.only.size
    · exact hf.lt k hk
  · rcases hk with hk | hk
    · exact .inl hk
    · exact (hm.sub k hk).imp (h.ff k) fun x => x
/-- time has gone on -/
theorem QRaw.tick (h : QRaw F Ff Fg w p n r mb m G pf Sf pg Sg) (n' : Int) : QRaw F Ff Fg (w.setCell ⟨p, 0, none⟩ (.int .i64 n')) p n' r mb m G pf Sf pg Sg ∧ Mv F F w (w.setCell ⟨p, 0, none⟩ (.int .i64 n')) := by
  have hz : (w.setCell ⟨p, 0, none⟩ (.int .i64 n')).heap.size = w.heap.size := by simp [World.setCell]
  have he : ∀ k, k ≠ p → (w.setCell ⟨p, 0, none⟩ (.int .i64 n')).heap[k]? = w.heap[k]? := fun k hk => Below.heap_setCell w ⟨p, 0, none⟩ _ k hk
  refine ⟨⟨?_, h.map.same (he mb h.ne), h.hf.out (Nat.le_of_eq hz.symm) fun k hk => he k fun e => h.pf1 (e ▸ hk), h.hg.out (Nat.le_of_eq hz.symm) fun k hk => he k fun e => h.pg1 (e ▸ hk), h.fp, h.fm, h.ff, h.fg, fun k hk => by rw [hz]; exact h.lt k hk, h.pf1, h.pg1, h.mf1, h.mg1, h.fd⟩, (Only.refl F w).set _ _ h.fp, fun k hk => .inl hk⟩
  have := h.blk.set 0 (.int .i64 n')
  simpa using this
/-- the map of items has changed -/
theorem QRaw.mapped (h : QRaw F Ff Fg w p n r mb m G pf Sf pg Sg) (hm : MapIt w' mb m' G') (hg : w.grownBy w' (some mb)) : QRaw F Ff Fg w' p n r mb m' G' pf Sf pg Sg ∧ Mv F F w w' := by
  have he : ∀ k, k < w.heap.size → k ≠ mb → w'.heap[k]? = w.heap[k]? := fun k hk hne => hg.block k hk fun e => hne (by injection e)
  refine ⟨⟨h.blk.same (he p (h.lt p h.fp) fun e => h.ne e.symm), hm, h.hf.out hg.size fun k hk => he k (h.lt k (h.ff k hk)) fun e => h.mf1 (e ▸ hk), h.hg.out hg.size fun k hk => he k (h.lt k (h.fg k hk)) fun e => h.mg1 (e ▸ hk), h.fp, h.fm, h.ff, h.fg, fun k hk => Nat.lt_of_lt_of_le (h.lt k hk) hg.size, h.pf1, h.pg1, h.mf1, h.mg1, h.fd⟩, Only.grown hg fun k e => by injection e with e; exact e ▸ h.fm, fun k hk => .inl hk⟩
end

/-- a queue of these items at this time; what is full is among what is full -/
def QAt (F : Nat → Prop) (w : World) (p : Nat) (n r : Int) (l : List It) : Prop :=
  ∃ Ff Fg mb pf pg lf lg Sf Sg, QRaw F Ff Fg w p n r mb l.length (gA l) pf Sf pg Sg ∧ QOk n r l lf lg Sf Sg ∧ ∀ x ∈ lg, ofA x n r < 1048575

theorem seq_on (x : It) (w : World) : (Instr.field 28 (.agg #[.int .i64 x.id, .int .i64 x.prio, .int .i64 x.since, .int .i64 x.seq]) 3).run Try.prog w = .ok (.int .i64 x.seq) w := by
  kernel_rfl
attribute [local go_sem high] seq_on

set_option maxHeartbeats 4000000 in
set_option maxRecDepth 100000 in
theorem kRipen_any {F Ff Fg : Nat → Prop} {w : World} {p : Nat} {n r : Int} {mb : Nat} {l lf lg : List It} {pf pg : Nat} {Sf Sg : List Th} (h : QRaw F Ff Fg w p n r mb l.length (gA l) pf Sf pg Sg) (hq : QOk n r l lf lg Sf Sg) (hl : l.length ≤ 1000) :
    Calls Try.prog 22 #[ptr13 p] w fun e w' => e = .returned (.tuple #[]) ∧ ∃ F', QAt F' w' p n r l ∧ Mv F F' w w' := by
  have H0 := Lib.hid h
  have Q0 := Lib.hid hq
  have HL := Lib.hid hl
  clear h hq
  go_enter Try.func22, Try.ntmps22
  refine wp_scope_goto 0 (fun k a' w' => ∃ (F' Ff' Fg' : Nat → Prop) (lf' lg' : List It) (Sf' Sg' : List Th), k = Sg'.length ∧ QRaw F' Ff' Fg' w' p n r mb l.length (gA l) pf Sf' pg Sg' ∧ QOk n r l lf' lg' Sf' Sg' ∧ Mv F F' w w' ∧ ∃ u1 u2 u3 u4 u5 u6 u7 u8 u9 u10 u11 u12 u13 u14 u15 u16 u17 u18 u19 u20 u21 u22 u23 u24 u25 u26 u27 u28 u29 u30 u31 u32 u33 u34 u35 u36 u37 u38 u39 u40 u41, a' = { tmps := #[ptr13 p, u1, u2, u3, u4, u5, u6, u7, u8, u9, u10, u11, u12, u13, u14, u15, u16, u17, u18, u19, u20, u21, u22, u23, u24, u25, u26, u27, u28, u29, u30, u31, u32, u33, u34, u35, u36, u37, u38, u39, u40, u41], defers := [] }) rfl rfl ?_ ?_
  · rintro k a' w' ⟨F', Ff', Fg', lf', lg', Sf', Sg', hk, hH, hQ, hM, u1, u2, u3, u4, u5, u6, u7, u8, u9, u10, u11, u12, u13, u14, u15, u16, u17, u18, u19, u20, u21, u22, u23, u24, u25, u26, u27, u28, u29, u30, u31, u32, u33, u34, u35, u36, u37, u38, u39, u40, u41, rfl⟩ K hK
    have HK := Lib.hid hK
    have HH := Lib.hid hH
    have HQ := Lib.hid hQ
    have HM := Lib.hid hM
    have hlen := hQ.len
    have p3 := hH.blk.cell 3 rfl
    have HF := Lib.hid (hFirst_any w' hH.hg (by omega))
    clear hK hH hQ hM
    cases Sg' with
    | nil =>
      have HS := Lib.hid (HQ.out.stop0 rfl)
      simp only [frsT] at HF
      clear hk hlen
      go_wp2_with (go_at_call 26; (with_reducible refine HF.out.mono ?_); rintro e w1 ⟨rfl, hb⟩; have HB := Lib.hid hb; clear hb p3)
      simp only [Exit.jump]
      go_end0
      exact ⟨rfl, F', ⟨Ff', Fg', mb, pf, pg, lf', lg', Sf', _, HH.out.kept HB.out, HQ.out, HS.out⟩, HM.out.trans (Mv.of_below HB.out)⟩
    | cons t T =>
      obtain ⟨x, hx, rfl⟩ := HQ.out.head rfl
      simp only [frsT, thG] at HF
      have hxo := HQ.out.okg x hx
      have hid : I64 x.id := hxo.2.2
      have hget := HQ.out.get hx
      have HX := Lib.hid hx
      have LK := Lib.hid fun (w1 : World) (hb : Below w'.heap.size w' w1) => (by
        have := MapIt.look1 (HH.out.kept hb).map hid
        rw [hget] at this
        exact this : (Instr.lookup 48 (.map (some mb)) (.int .i64 x.id) false).run Try.prog w1 = .ok (.agg #[.int .i64 x.id, .int .i64 x.prio, .int .i64 x.since, .int .i64 x.seq]) w1)
      have FU := Lib.hid fun (w1 : World) (hb : Below w'.heap.size w' w1) => kFull_any x (HH.out.kept hb).blk
      by_cases hf : ofA x n r = 1048575
      · have hf2 : (ofA x n r == 1048575) = true := by simp [hf]
        rw [hf2] at FU
        have HQ2 := Lib.hid (HQ.out.step hx hf)
        have HG := Lib.hid (HQ.out.gone hx)
        have HD := Lib.hid fun (w1 : World) (hb : Below w'.heap.size w' w1) => hDrop_any x.id w1 (HH.out.kept hb).hg (by simp only [List.length_cons] at hlen ⊢; omega) hid
        have HP := Lib.hid fun (w2 : World) (Fb : Nat → Prop) (hh : HeapAt Fb w2 pf Sf') => hPut_any (thF x) w2 hh (by omega) hid
        simp only [thF, itv] at HP FU
        have HN := Lib.hid (show (dropT (thG r x :: T) x.id).length < k by rw [hk]; exact HG.out)
        clear hk hlen hget hxo hf hf2 hx
        go_wp2_with (first
          | (go_at_call 26; (with_reducible refine HF.out.mono ?_); rintro e w1 ⟨rfl, hb⟩; have HB := Lib.hid hb; have hk1 := LK.out w1 hb; have q2 := (HH.out.kept hb).blk.cell 2 rfl; have q3 := (HH.out.kept hb).blk.cell 3 rfl; clear hb p3)
          | (go_at_call 32; (with_reducible refine (FU.out _ HB.out).mono ?_); rintro e w2 ⟨rfl, hb⟩; have HB2 := Lib.hid (HB.out.trans (hb.mono HB.out.size)); have r3 := (HH.out.kept HB2.out).blk.cell 3 rfl; clear hb hk1 q2 q3)
          | (go_at_call 29; (with_reducible refine (HD.out _ HB2.out).mono ?_); rintro e w3 ⟨rfl, Fg2, h1, h2⟩; have HR := Lib.hid ((HH.out.kept HB2.out).growing h1 h2); have HM3 := Lib.hid ((HM.out.trans (Mv.of_below HB2.out)).trans HR.out.2); have s2 := HR.out.1.blk.cell 2 rfl; have s4 := HR.out.1.blk.cell 4 rfl; clear h1 h2 r3))
        have HL3 := Lib.hid (by
          have h1 := HR.out.1.map
          exact fun (w4 : World) (hb : Below w3.heap.size w3 w4) => (by
            have := MapIt.look1 (h1.kept hb) hid
            rw [HQ.out.get HX.out] at this
            exact this : (Instr.lookup 48 (.map (some mb)) (.int .i64 x.id) false).run Try.prog w4 = .ok (.agg #[.int .i64 x.id, .int .i64 x.prio, .int .i64 x.since, .int .i64 x.seq]) w4))
        refine wp_region_calmT 12 (by kernel_rfl) (by simp) (by kernel_rfl) fun M => ?_
        simp only [List.take_succ_cons, List.take_zero, List.drop_succ_cons, List.drop_zero]
        have m0 := fun n : In M.w => n.cell (M.cell s2)
        have m1 := fun n : In M.w => n.cell (M.cell s4)
        have m2 := fun n : In M.w => HL3.out n.w (M.h.trans (n.h.mono M.h.size))
        repeat (go_big_quiet_step (fail))
        refine wpQuiet_nil ?_
        clear m0 m1 m2 M s2 s4
        intro w5 hb5
        have HR5 := Lib.hid (HR.out.1.kept hb5)
        have HM5 := Lib.hid (HM3.out.trans (Mv.of_below hb5))
        clear hb5
        go_wp2_with (go_at_call 20; (with_reducible refine (HP.out _ _ HR5.out.hf).mono ?_); rintro e w6 ⟨rfl, Ff2, h1, h2⟩; have HR6 := Lib.hid (HR5.out.fulling h1 h2); clear h1 h2)
        go_step3
        exact ⟨rfl, HK.out _ _ _ HN.out ⟨_, _, _, _, _, _, _, rfl, HR6.out.1, HQ2.out, HM5.out.trans HR6.out.2, _, _, _, _, _, _, _, _, _, _, _, _, _, _, _, _, _, _, _, _, _, _, _, _, _, _, _, _, _, _, _, _, _, _, _, _, _, _, _, _, _,  rfl⟩⟩
      · have hf2 : (ofA x n r == 1048575) = false := by simp [hf]
        rw [hf2] at FU
        have HS := Lib.hid (HQ.out.stop rfl hx hf)
        simp only [itv] at FU
        clear hk hlen hget hxo hf hf2 hx
        go_wp2_with (first
          | (go_at_call 26; (with_reducible refine HF.out.mono ?_); rintro e w1 ⟨rfl, hb⟩; have HB := Lib.hid hb; have hk1 := LK.out w1 hb; have q2 := (HH.out.kept hb).blk.cell 2 rfl; clear hb p3)
          | (go_at_call 32; (with_reducible refine (FU.out _ HB.out).mono ?_); rintro e w2 ⟨rfl, hb⟩; have HB2 := Lib.hid (HB.out.trans (hb.mono HB.out.size)); clear hb hk1 q2))
        simp only [Exit.jump]
        go_end0
        exact ⟨rfl, F', ⟨Ff', Fg', mb, pf, pg, lf', lg', Sf', _, HH.out.kept HB2.out, HQ.out, HS.out⟩, HM.out.trans (Mv.of_below HB2.out)⟩
  · intro K hK
    go_wp2
    go_step3
    rename_i hback
    exact hback _ _ (hK _ _ _ ⟨F, Ff, Fg, lf, lg, Sf, Sg, rfl, H0.out, Q0.out, Mv.refl _ _, _, _, _, _, _, _, _, _, _, _, _, _, _, _, _, _, _, _, _, _, _, _, _, _, _, _, _, _, _, _, _, _, _, _, _, _, _, _, _, _, _,  rfl⟩)
end Go.Proofs.Ytkhnkhkpjgemkaa
