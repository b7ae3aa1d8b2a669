/- Stage 13's program: down; what is laid in a gap. -/
import Derived.Test.YtnfdhlkngjplkaaHpD
import Derived.Deep.DeepCutAuto
namespace Go.Proofs.Ytnfdhlkngjplkaa
open Go.RowKit

def hpL (L : List Th) (_ : Nat) : Prop := hp L
set_option maxHeartbeats 4000000 in
set_option maxRecDepth 100000 in
theorem hDown_any {F : Nat → Prop} {p : Nat} {v : Value} {b : Nat} {T : List Th} {g : Int → Option Nat} (i : Nat) (x : Th) (w : World) (h : GapAt F w p v b T g i x) (hu : dnI (T.set i x) i) (hn : T.length ≤ 1000000) :
    Calls Try.prog 60 #[ptr13 p, .int .i64 (i : Int), .agg #[.int .i64 x.id, .int .i64 x.key, .int .i64 x.seq]] w fun e w' => ∃ j : Nat, e = .returned (.int .i64 (j : Int)) ∧ Moved hpL F w w' p v b (T.set i x) x j := by
  have hal := (Below.refl w.heap.size w).alloc (Nat.le_refl _) (.cells #[.int .i64 x.id, .int .i64 x.key, .int .i64 x.seq] 77)
  have HX := Lib.hid (Blk.new w [.int .i64 x.id, .int .i64 x.key, .int .i64 x.seq] 77)
  have HWA := Lib.hid (Only.of_below (F := F) hal)
  have HF := Lib.hid (show ¬ F w.heap.size from fun hf => by obtain ⟨m, h1⟩ := h.raw; have := h1.lt _ hf; omega)
  have H0 := Lib.hid (h.kept hal)
  have U0 := Lib.hid hu
  have I0 := Lib.hid h.lt
  have HN := Lib.hid hn
  have HL0 := Lib.hid (show (T.set i x).length = T.length from List.length_set ..)
  clear h hu hal
  go_enter Try.func60, Try.ntmps60
  go_wp2
  refine wp_scope_goto 0 (fun m a' w' => ∃ (n : Nat) (X : Int) (T' : List Th) (g' : Int → Option Nat), X = n ∧ m = T.length - n ∧ T'.length = T.length ∧ GapAt F w' p v b T' g' n x ∧ dnI (T'.set n x) n ∧ (T'.set n x).Perm (T.set i x) ∧ Only F w w' ∧ Blk w' w.heap.size [.int .i64 x.id, .int .i64 x.key, .int .i64 x.seq] ∧ ∃ u2 u3 u4 u6 u7 u8 u9 u10 u11 u12 u13 u14 u15 u16 u17 u18 u19 u20 u21 u22 u23 u24 u25 u26 u27 u28 u29 u30 u31 u32 u33 u34 u35 u36 u37 u38 u39 u40, a' = { tmps := #[ptr13 p, .int .i64 X, u2, u3, u4, .pointer (some ⟨w.heap.size, 0, none⟩), u6, u7, u8, u9, u10, u11, u12, u13, u14, u15, u16, u17, u18, u19, u20, u21, u22, u23, u24, u25, u26, u27, u28, u29, u30, u31, u32, u33, u34, u35, u36, u37, u38, u39, u40], defers := [] }) rfl rfl ?_ ?_
  · rintro m a' w' ⟨n, X, T', g', hX, hm, hlen, hH, hU, hP, hO, hBx, u2, u3, u4, u6, u7, u8, u9, u10, u11, u12, u13, u14, u15, u16, u17, u18, u19, u20, u21, u22, u23, u24, u25, u26, u27, u28, u29, u30, u31, u32, u33, u34, u35, u36, u37, u38, u39, u40, rfl⟩ K hK
    have HK := Lib.hid hK
    have HH := Lib.hid hH
    have HU := Lib.hid hU
    have HP := Lib.hid hP
    have HO := Lib.hid hO
    have HL := Lib.hid hlen
    have HB := Lib.hid hBx
    have HM := Lib.hid hm
    have hnl := hH.lt
    obtain ⟨mm, hraw⟩ := hH.raw
    have HUN := Lib.hid (hUnder_any n w' hraw hnl (by omega))
    obtain ⟨gb, o, cap, rfl, hlc, _⟩ := hraw.own.th n hnl
    have HNL := Lib.hid hnl
    have X5 : (T'.length : Int) ≤ 1000000 := by omega
    clear hK hU hP hO hm hraw hlen
    subst hX
    go_upto_region 2 with (go_at_call 64; (with_reducible refine HUN.out.mono ?_); rintro e w1 ⟨c, rfl, hc, hb⟩; have HC := Lib.hid hc; have HH1 := Lib.hid (HH.out.kept hb); have HO1 := Lib.hid (HO.out.trans (Only.of_below hb)); have HB1 := Lib.hid (HB.out.kept hb); clear hc hb)
    clear HH HO HB HUN hH hBx
    obtain ⟨mm, hraw⟩ := HH1.out.raw
    have p0 := hraw.blk.cell 0 rfl
    by_cases hcl : c < T'.length
    · have hcn : c ≠ n := by have := HC.out.who; omega
      have C1 : decide ((c : Int) < (T'.length : Int)) = true := by simp; omega
      have C3 : decide (c < T'.length) = true := by simp; omega
      have C2 : (c : Int) < (T'.length : Int) := by omega
      have C0 : (0 : Int) ≤ (c : Int) := by omega
      obtain ⟨_, _, _, e, _, ⟨j0, j1, j2⟩, _⟩ := hraw.own.th c hcl
      cases e
      have i0 := HB1.out.cell 0 rfl
      have i1 := HB1.out.cell 1 rfl
      have i2 := HB1.out.cell 2 rfl
      have GA := Lib.hid fun w1 => hAhead_any (tg T' c) x w1
      have SW := Lib.hid fun w1 (h1 : GapAt F w1 p (.slice (some ⟨gb, o, none⟩) T'.length cap) b T' g' n x) => hMove_any c w1 h1 hcl hcn (by omega)
      have e1 := tg_in T' n x HNL.out
      have e2 := tg_out T' n c x HNL.out hcn
      have hsl : (T'.set n x).length = T'.length := List.length_set ..
      have c0 : 0 < c := by have := HC.out.who; omega
      have hpc : par c = n := by have := HC.out.who; unfold par; omega
      have hall : ∀ k, 0 < k → k < (T'.set n x).length → par k = n → ahead (tg (T'.set n x) k) (tg (T'.set n x) c) = false := fun k k0 hk hp => by
        rw [hsl] at hk
        rw [e2, tg_out T' n k x HNL.out (by unfold par at hp; omega)]
        exact HC.out.all k k0 hk hp
      have ST := Lib.hid fun ha => HU.out.step c0 (by rw [hsl]; exact hcl) hpc hall (by rw [e1, e2]; exact ha)
      have HDN := Lib.hid fun (ha : ahead (tg T' c) x = false) => HU.out.done fun k k0 hk hp => by
        have h1 := hall k k0 hk hp
        rw [e1]
        rw [e2] at h1
        exact nah_trans ha h1
      have SG := Lib.hid (gap_swap (x := x) HNL.out hcn)
      have SP := Lib.hid (swapT_perm (T'.set n x) n c (by rw [hsl]; exact HNL.out) (by rw [hsl]; exact hcl))
      have HCN := Lib.hid (show n < c by have := HC.out.who; omega)
      have HCL := Lib.hid hcl
      clear hraw e1 e2 hsl c0 hpc hall hcn hcl
      cases ha : ahead (tg T' c) x with
      | false =>
        have HD := Lib.hid (HDN.out ha)
        rw [ha] at GA
        generalize tg T' c = tp at *
        clear ha HDN ST
        go_wp2
        refine wp_region_calm0 (by kernel_rfl) (by kernel_rfl) fun M => ?_
        have e0 := fun n : In M.w => n.cell (M.cell p0)
        have m0 := fun n : In M.w => n.cell (M.cell i0)
        have m1 := fun n : In M.w => n.cell (M.cell i1)
        have m2 := fun n : In M.w => n.cell (M.cell i2)
        have k0 := fun n : In M.w => n.cell (M.cell j0)
        have k1 := fun n : In M.w => n.cell (M.cell j1)
        have k2 := fun n : In M.w => n.cell (M.cell j2)
        repeat (go_big_quiet_step ((go_at_call 65; with_reducible exact In.call (GA.out _))))
        refine wpQuiet_nil ?_
        clear e0 m0 m1 m2 k0 k1 k2 M
        intro w2 hb
        have HF2 := Lib.hid (show Moved hpL F w w2 p (.slice (some ⟨gb, o, none⟩) T'.length cap) b (T.set i x) x n from ⟨T', g', HH1.out.kept hb, HD.out, HP.out, by rw [HL0.out]; exact HL.out, HO1.out.trans (Only.of_below hb)⟩)
        go_wp2
        simp only [Exit.jump]
        exact bodyPost_ret (v := .int .i64 (n : Int)) (by simp [results, Try.results60, go_sem]) rfl ⟨n, rfl, HF2.out⟩
      | true =>
        have ST2 := Lib.hid (ST.out ha)
        rw [ha] at GA
        generalize tg T' c = tp at *
        clear ha HDN ST
        go_wp2
        refine wp_region_calm0 (by kernel_rfl) (by kernel_rfl) fun M => ?_
        have e0 := fun n : In M.w => n.cell (M.cell p0)
        have m0 := fun n : In M.w => n.cell (M.cell i0)
        have m1 := fun n : In M.w => n.cell (M.cell i1)
        have m2 := fun n : In M.w => n.cell (M.cell i2)
        have k0 := fun n : In M.w => n.cell (M.cell j0)
        have k1 := fun n : In M.w => n.cell (M.cell j1)
        have k2 := fun n : In M.w => n.cell (M.cell j2)
        repeat (go_big_quiet_step ((go_at_call 65; with_reducible exact In.call (GA.out _))))
        refine wpQuiet_nil ?_
        clear e0 m0 m1 m2 k0 k1 k2 M
        clear i0 i1 i2
        intro w2 hb
        have HH2 := Lib.hid (HH1.out.kept hb)
        have HO2 := Lib.hid (HO1.out.trans (Only.of_below hb))
        have HB2 := Lib.hid (HB1.out.kept hb)
        have c0 := (World.cell?_of_block (a := ⟨p, 0, none⟩) (hb.block p (World.block_lt_of_cell? _ _ p0))).trans p0
        have d0 := (World.cell?_of_block (a := ⟨gb, o + c * 3, none⟩) (hb.block gb (World.block_lt_of_cell? _ _ j0))).trans j0
        have d1 := (World.cell?_of_block (a := ⟨gb, o + c * 3 + 1, none⟩) (hb.block gb (World.block_lt_of_cell? _ _ j0))).trans j1
        have d2 := (World.cell?_of_block (a := ⟨gb, o + c * 3 + 2, none⟩) (hb.block gb (World.block_lt_of_cell? _ _ j0))).trans j2
        clear hb p0 j0 j1 j2
        go_wp2_with (go_at_call 62; (with_reducible refine (SW.out _ HH2.out).mono ?_); rintro e w3 ⟨rfl, h1, h2⟩; have HH3 := Lib.hid h1; have HB3 := Lib.hid (HB2.out.same (h2.block w.heap.size HB2.out.lt HF.out)); have HO3 := Lib.hid (HO2.out.trans h2); clear h1 h2 c0 d0 d1 d2)
        go_step3
        refine ⟨rfl, HK.out (T.length - c) _ _ (by have := HM.out; have := HCN.out; have := HCL.out; have := HL.out; omega) ⟨c, _, T'.set n tp, _, rfl, rfl, by rw [List.length_set]; exact HL.out, by rw [List.length_set] at *; exact HH3.out, by rw [SG.out]; exact ST2.out, by rw [SG.out]; exact SP.out.trans HP.out, HO3.out, HB3.out, _, _, _, _, _, _, _, _, _, _, _, _, _, _, _, _, _, _, _, _, _, _, _, _, _, _, _, _, _, _, _, _, _, _, _, _, _, _,  rfl⟩⟩
    · have C1 : decide ((c : Int) < (T'.length : Int)) = false := by simp; omega
      have C3 : decide (c < T'.length) = false := by simp; omega
      have HD := Lib.hid (HU.out.done fun k k0 hk hp => by
        rw [List.length_set] at hk
        have := HC.out.some (by omega)
        unfold par at hp
        omega)
      clear hraw hcl
      go_wp2
      refine wp_region_calm0 (by kernel_rfl) (by kernel_rfl) fun M => ?_
      have e0 := fun n : In M.w => n.cell (M.cell p0)
      repeat (go_big_quiet_step (fail))
      refine wpQuiet_nil ?_
      clear e0 M
      intro w2 hb
      have HF2 := Lib.hid (show Moved hpL F w w2 p (.slice (some ⟨gb, o, none⟩) T'.length cap) b (T.set i x) x n from ⟨T', g', HH1.out.kept hb, HD.out, HP.out, by rw [HL0.out]; exact HL.out, HO1.out.trans (Only.of_below hb)⟩)
      go_wp2
      simp only [Exit.jump]
      exact bodyPost_ret (v := .int .i64 (n : Int)) (by simp [results, Try.results60, go_sem]) rfl ⟨n, rfl, HF2.out⟩
  · intro K hpass
    go_wp2
    go_step3
    rename_i hback
    exact hback _ _ (hpass (T.length - i) _ _ ⟨i, _, T, g, rfl, rfl, rfl, H0.out, U0.out, List.Perm.refl _, HWA.out, HX.out, _, _, _, _, _, _, _, _, _, _, _, _, _, _, _, _, _, _, _, _, _, _, _, _, _, _, _, _, _, _, _, _, _, _, _, _, _, _,  rfl⟩)
end Go.Proofs.Ytnfdhlkngjplkaa
