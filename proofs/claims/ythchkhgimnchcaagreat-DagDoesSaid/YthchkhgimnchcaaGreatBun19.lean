/- Texts of this proof, joined: HpD; HpE; HpF; HpG; HpH; HpI; HpJ; GrC. -/
import Derived.Test.YthchkhgimnchcaaGreatBun18
import Derived.Deep.DeepCutAuto
import Derived.BigRegion
import Derived.Deep.RegionWith
/- Stage 13's program: the one below that is ahead; down. -/
namespace Go.Proofs.YthchkhgimnchcaaGreat
open Go.RowKit

/-- c is the one below i that is ahead; beyond the end, if there is none -/
structure Under (T : List Th) (i c : Nat) : Prop where
  who : c = 2 * i + 1 ∨ c = 2 * i + 2
  all : ∀ k, 0 < k → k < T.length → par k = i → ahead (tg T k) (tg T c) = false
  some : T.length ≤ c → T.length ≤ 2 * i + 1

set_option maxHeartbeats 4000000 in
set_option maxRecDepth 100000 in
theorem hUnder_any {F : Nat → Prop} {p : Nat} {v : Value} {b m : Nat} {T : List Th} {g : Int → Option Nat} (i : Nat) (w : World) (h : RawAt F w p v b T m g) (hi : i < T.length) (hn : T.length ≤ 1000000) :
    Calls Tryz.prog 119 #[ptr13 p, .int .i64 (i : Int)] w fun e w' => ∃ c : Nat, e = .returned (.int .i64 (c : Int)) ∧ Under T i c ∧ Below w.heap.size w w' := by
  obtain ⟨gb, o, cap, rfl, hlc, _⟩ := h.own.th i hi
  have p0 := h.blk.cell 0 rfl
  have X1 : (i : Int) < (T.length : Int) := by omega
  have X2 : (0 : Int) ≤ (i : Int) := by omega
  have X5 : (T.length : Int) ≤ 1000000 := by omega
  by_cases hc : 2 * i + 2 < T.length
  · have C1 : (2 : Int) * (i : Int) + 2 < (T.length : Int) := by omega
    have C2 : decide ((2 : Int) * (i : Int) + 2 < (T.length : Int)) = true := by simp; omega
    have D1 : (2 : Int) * (i : Int) + 1 < (T.length : Int) := by omega
    have D2 : (0 : Int) ≤ (2 : Int) * (i : Int) + 1 := by omega
    have D3 : (0 : Int) ≤ (2 : Int) * (i : Int) + 2 := by omega
    obtain ⟨_, _, _, e, _, ⟨i0, i1, i2⟩, _⟩ := h.own.th (2 * i + 2) hc
    cases e
    obtain ⟨_, _, _, e, _, ⟨j0, j1, j2⟩, _⟩ := h.own.th (2 * i + 1) (by omega)
    cases e
    have GA := Lib.hid fun w1 => hAhead_any (tg T (2 * i + 2)) (tg T (2 * i + 1)) w1
    have N1 : ((2 : Int) * (i : Int) + 2).toNat = 2 * i + 2 := by omega
    have N2 : ((2 : Int) * (i : Int) + 1).toNat = 2 * i + 1 := by omega
    cases ha : ahead (tg T (2 * i + 2)) (tg T (2 * i + 1)) with
    | true =>
      have HU := Lib.hid (show Under T i (2 * i + 2) from ⟨.inr rfl, fun k k0 hk hp => by
        by_cases e : k = 2 * i + 2
        · rw [e]; exact ahead_irr _
        · have : k = 2 * i + 1 := by unfold par at hp; omega
          rw [this]; exact ahead_asym ha, fun h => by omega⟩)
      rw [ha] at GA
      generalize tg T (2 * i + 1) = t1 at *
      generalize tg T (2 * i + 2) = t2 at *
      clear ha h hc
      go_enter Tryz.func119, Tryz.ntmps119
      go_wp2
      refine wp_region_calm0 (by kernel_rfl) (by kernel_rfl) fun M => ?_
      have e0 := fun n : In M.w => n.cell (M.cell p0)
      have m0 := fun n : In M.w => n.cell (M.cell i0)
      have m1 := fun n : In M.w => n.cell (M.cell i1)
      have m2 := fun n : In M.w => n.cell (M.cell i2)
      have k0 := fun n : In M.w => n.cell (M.cell j0)
      have k1 := fun n : In M.w => n.cell (M.cell j1)
      have k2 := fun n : In M.w => n.cell (M.cell j2)
      repeat (go_big_quiet_step ((go_at_call 120; with_reducible exact In.call (GA.out _))))
      refine wpQuiet_nil ?_
      clear e0 m0 m1 m2 k0 k1 k2 M
      intro w1 hb
      go_wp2
      exact bodyPost_ret (v := .int .i64 (2 * (i : Int) + 2)) (by simp [results, Tryz.results119, go_sem]) rfl ⟨2 * i + 2, by congr 2, HU.out, hb⟩
    | false =>
      have HU := Lib.hid (show Under T i (2 * i + 1) from ⟨.inl rfl, fun k k0 hk hp => by
        by_cases e : k = 2 * i + 1
        · rw [e]; exact ahead_irr _
        · have : k = 2 * i + 2 := by unfold par at hp; omega
          rw [this]; exact ha, fun h => by omega⟩)
      rw [ha] at GA
      generalize tg T (2 * i + 1) = t1 at *
      generalize tg T (2 * i + 2) = t2 at *
      clear ha h hc
      go_enter Tryz.func119, Tryz.ntmps119
      go_wp2
      refine wp_region_calm0 (by kernel_rfl) (by kernel_rfl) fun M => ?_
      have e0 := fun n : In M.w => n.cell (M.cell p0)
      have m0 := fun n : In M.w => n.cell (M.cell i0)
      have m1 := fun n : In M.w => n.cell (M.cell i1)
      have m2 := fun n : In M.w => n.cell (M.cell i2)
      have k0 := fun n : In M.w => n.cell (M.cell j0)
      have k1 := fun n : In M.w => n.cell (M.cell j1)
      have k2 := fun n : In M.w => n.cell (M.cell j2)
      repeat (go_big_quiet_step ((go_at_call 120; with_reducible exact In.call (GA.out _))))
      refine wpQuiet_nil ?_
      clear e0 m0 m1 m2 k0 k1 k2 M
      intro w1 hb
      go_wp2
      exact bodyPost_ret (v := .int .i64 (2 * (i : Int) + 1)) (by simp [results, Tryz.results119, go_sem]) rfl ⟨2 * i + 1, by congr 2, HU.out, hb⟩
  · have C2 : decide ((2 : Int) * (i : Int) + 2 < (T.length : Int)) = false := by simp; omega
    have HU := Lib.hid (show Under T i (2 * i + 1) from ⟨.inl rfl, fun k k0 hk hp => by
        have : k = 2 * i + 1 := by unfold par at hp; omega
        rw [this]; exact ahead_irr _, fun h => h⟩)
    clear h hc
    go_enter Tryz.func119, Tryz.ntmps119
    go_wp2
    refine wp_region_calm0 (by kernel_rfl) (by kernel_rfl) fun M => ?_
    have e0 := fun n : In M.w => n.cell (M.cell p0)
    repeat (go_big_quiet_step (fail))
    refine wpQuiet_nil ?_
    clear e0 M
    intro w1 hb
    go_wp2
    exact bodyPost_ret (v := .int .i64 (2 * (i : Int) + 1)) (by simp [results, Tryz.results119, go_sem]) rfl ⟨2 * i + 1, by congr 2, HU.out, hb⟩
end Go.Proofs.YthchkhgimnchcaaGreat
/- Stage 13's program: down; what is laid in a gap. -/
namespace Go.Proofs.YthchkhgimnchcaaGreat
open Go.RowKit

def hpL (L : List Th) (_ : Nat) : Prop := hp L
set_option maxHeartbeats 4000000 in
set_option maxRecDepth 100000 in
theorem hDown_any {F : Nat → Prop} {p : Nat} {v : Value} {b : Nat} {T : List Th} {g : Int → Option Nat} (i : Nat) (x : Th) (w : World) (h : GapAt F w p v b T g i x) (hu : dnI (T.set i x) i) (hn : T.length ≤ 1000000) :
    Calls Tryz.prog 116 #[ptr13 p, .int .i64 (i : Int), .agg #[.int .i64 x.id, .int .i64 x.key, .int .i64 x.seq]] w fun e w' => ∃ j : Nat, e = .returned (.int .i64 (j : Int)) ∧ Moved hpL F w w' p v b (T.set i x) x j := by
  have hal := (Below.refl w.heap.size w).alloc (Nat.le_refl _) (.cells #[.int .i64 x.id, .int .i64 x.key, .int .i64 x.seq] 150)
  have HX := Lib.hid (Blk.new w [.int .i64 x.id, .int .i64 x.key, .int .i64 x.seq] 150)
  have HWA := Lib.hid (Only.of_below (F := F) hal)
  have HF := Lib.hid (show ¬ F w.heap.size from fun hf => by obtain ⟨m, h1⟩ := h.raw; have := h1.lt _ hf; omega)
  have H0 := Lib.hid (h.kept hal)
  have U0 := Lib.hid hu
  have I0 := Lib.hid h.lt
  have HN := Lib.hid hn
  have HL0 := Lib.hid (show (T.set i x).length = T.length from List.length_set ..)
  clear h hu hal
  go_enter Tryz.func116, Tryz.ntmps116
  go_wp2
  refine wp_scope_goto 0 (fun m a' w' => ∃ (n : Nat) (X : Int) (T' : List Th) (g' : Int → Option Nat), X = n ∧ m = T.length - n ∧ T'.length = T.length ∧ GapAt F w' p v b T' g' n x ∧ dnI (T'.set n x) n ∧ (T'.set n x).Perm (T.set i x) ∧ Only F w w' ∧ Blk w' w.heap.size [.int .i64 x.id, .int .i64 x.key, .int .i64 x.seq] ∧ ∃ u2 u3 u4 u6 u7 u8 u9 u10 u11 u12 u13 u14 u15 u16 u17 u18 u19 u20 u21 u22 u23 u24 u25 u26 u27 u28 u29 u30 u31 u32 u33 u34 u35 u36 u37 u38 u39 u40, a' = { tmps := #[ptr13 p, .int .i64 X, u2, u3, u4, .pointer (some ⟨w.heap.size, 0, none⟩), u6, u7, u8, u9, u10, u11, u12, u13, u14, u15, u16, u17, u18, u19, u20, u21, u22, u23, u24, u25, u26, u27, u28, u29, u30, u31, u32, u33, u34, u35, u36, u37, u38, u39, u40], defers := [] }) rfl rfl ?_ ?_
  · rintro m a' w' ⟨n, X, T', g', hX, hm, hlen, hH, hU, hP, hO, hBx, u2, u3, u4, u6, u7, u8, u9, u10, u11, u12, u13, u14, u15, u16, u17, u18, u19, u20, u21, u22, u23, u24, u25, u26, u27, u28, u29, u30, u31, u32, u33, u34, u35, u36, u37, u38, u39, u40, rfl⟩ K hK
    have HK := Lib.hid hK
    have HH := Lib.hid hH
    have HU := Lib.hid hU
    have HP := Lib.hid hP
    have HO := Lib.hid hO
    have HL := Lib.hid hlen
    have HB := Lib.hid hBx
    have HM := Lib.hid hm
    have hnl := hH.lt
    obtain ⟨mm, hraw⟩ := hH.raw
    have HUN := Lib.hid (hUnder_any n w' hraw hnl (by omega))
    obtain ⟨gb, o, cap, rfl, hlc, _⟩ := hraw.own.th n hnl
    have HNL := Lib.hid hnl
    have X5 : (T'.length : Int) ≤ 1000000 := by omega
    clear hK hU hP hO hm hraw hlen
    subst hX
    go_upto_region 2 with (go_at_call 119; (with_reducible refine HUN.out.mono ?_); rintro e w1 ⟨c, rfl, hc, hb⟩; have HC := Lib.hid hc; have HH1 := Lib.hid (HH.out.kept hb); have HO1 := Lib.hid (HO.out.trans (Only.of_below hb)); have HB1 := Lib.hid (HB.out.kept hb); clear hc hb)
    clear HH HO HB HUN hH hBx
    obtain ⟨mm, hraw⟩ := HH1.out.raw
    have p0 := hraw.blk.cell 0 rfl
    by_cases hcl : c < T'.length
    · have hcn : c ≠ n := by have := HC.out.who; omega
      have C1 : decide ((c : Int) < (T'.length : Int)) = true := by simp; omega
      have C3 : decide (c < T'.length) = true := by simp; omega
      have C2 : (c : Int) < (T'.length : Int) := by omega
      have C0 : (0 : Int) ≤ (c : Int) := by omega
      obtain ⟨_, _, _, e, _, ⟨j0, j1, j2⟩, _⟩ := hraw.own.th c hcl
      cases e
      have i0 := HB1.out.cell 0 rfl
      have i1 := HB1.out.cell 1 rfl
      have i2 := HB1.out.cell 2 rfl
      have GA := Lib.hid fun w1 => hAhead_any (tg T' c) x w1
      have SW := Lib.hid fun w1 (h1 : GapAt F w1 p (.slice (some ⟨gb, o, none⟩) T'.length cap) b T' g' n x) => hMove_any c w1 h1 hcl hcn (by omega)
      have e1 := tg_in T' n x HNL.out
      have e2 := tg_out T' n c x HNL.out hcn
      have hsl : (T'.set n x).length = T'.length := List.length_set ..
      have c0 : 0 < c := by have := HC.out.who; omega
      have hpc : par c = n := by have := HC.out.who; unfold par; omega
      have hall : ∀ k, 0 < k → k < (T'.set n x).length → par k = n → ahead (tg (T'.set n x) k) (tg (T'.set n x) c) = false := fun k k0 hk hp => by
        rw [hsl] at hk
        rw [e2, tg_out T' n k x HNL.out (by unfold par at hp; omega)]
        exact HC.out.all k k0 hk hp
      have ST := Lib.hid fun ha => HU.out.step c0 (by rw [hsl]; exact hcl) hpc hall (by rw [e1, e2]; exact ha)
      have HDN := Lib.hid fun (ha : ahead (tg T' c) x = false) => HU.out.done fun k k0 hk hp => by
        have h1 := hall k k0 hk hp
        rw [e1]
        rw [e2] at h1
        exact nah_trans ha h1
      have SG := Lib.hid (gap_swap (x := x) HNL.out hcn)
      have SP := Lib.hid (swapT_perm (T'.set n x) n c (by rw [hsl]; exact HNL.out) (by rw [hsl]; exact hcl))
      have HCN := Lib.hid (show n < c by have := HC.out.who; omega)
      have HCL := Lib.hid hcl
      clear hraw e1 e2 hsl c0 hpc hall hcn hcl
      cases ha : ahead (tg T' c) x with
      | false =>
        have HD := Lib.hid (HDN.out ha)
        rw [ha] at GA
        generalize tg T' c = tp at *
        clear ha HDN ST
        go_wp2
        refine wp_region_calm0 (by kernel_rfl) (by kernel_rfl) fun M => ?_
        have e0 := fun n : In M.w => n.cell (M.cell p0)
        have m0 := fun n : In M.w => n.cell (M.cell i0)
        have m1 := fun n : In M.w => n.cell (M.cell i1)
        have m2 := fun n : In M.w => n.cell (M.cell i2)
        have k0 := fun n : In M.w => n.cell (M.cell j0)
        have k1 := fun n : In M.w => n.cell (M.cell j1)
        have k2 := fun n : In M.w => n.cell (M.cell j2)
        repeat (go_big_quiet_step ((go_at_call 120; with_reducible exact In.call (GA.out _))))
        refine wpQuiet_nil ?_
        clear e0 m0 m1 m2 k0 k1 k2 M
        intro w2 hb
        have HF2 := Lib.hid (show Moved hpL F w w2 p (.slice (some ⟨gb, o, none⟩) T'.length cap) b (T.set i x) x n from ⟨T', g', HH1.out.kept hb, HD.out, HP.out, by rw [HL0.out]; exact HL.out, HO1.out.trans (Only.of_below hb)⟩)
        go_wp2
        simp only [Exit.jump]
        exact bodyPost_ret (v := .int .i64 (n : Int)) (by simp [results, Tryz.results116, go_sem]) rfl ⟨n, rfl, HF2.out⟩
      | true =>
        have ST2 := Lib.hid (ST.out ha)
        rw [ha] at GA
        generalize tg T' c = tp at *
        clear ha HDN ST
        go_wp2
        refine wp_region_calm0 (by kernel_rfl) (by kernel_rfl) fun M => ?_
        have e0 := fun n : In M.w => n.cell (M.cell p0)
        have m0 := fun n : In M.w => n.cell (M.cell i0)
        have m1 := fun n : In M.w => n.cell (M.cell i1)
        have m2 := fun n : In M.w => n.cell (M.cell i2)
        have k0 := fun n : In M.w => n.cell (M.cell j0)
        have k1 := fun n : In M.w => n.cell (M.cell j1)
        have k2 := fun n : In M.w => n.cell (M.cell j2)
        repeat (go_big_quiet_step ((go_at_call 120; with_reducible exact In.call (GA.out _))))
        refine wpQuiet_nil ?_
        clear e0 m0 m1 m2 k0 k1 k2 M
        clear i0 i1 i2
        intro w2 hb
        have HH2 := Lib.hid (HH1.out.kept hb)
        have HO2 := Lib.hid (HO1.out.trans (Only.of_below hb))
        have HB2 := Lib.hid (HB1.out.kept hb)
        have c0 := (World.cell?_of_block (a := ⟨p, 0, none⟩) (hb.block p (World.block_lt_of_cell? _ _ p0))).trans p0
        have d0 := (World.cell?_of_block (a := ⟨gb, o + c * 3, none⟩) (hb.block gb (World.block_lt_of_cell? _ _ j0))).trans j0
        have d1 := (World.cell?_of_block (a := ⟨gb, o + c * 3 + 1, none⟩) (hb.block gb (World.block_lt_of_cell? _ _ j0))).trans j1
        have d2 := (World.cell?_of_block (a := ⟨gb, o + c * 3 + 2, none⟩) (hb.block gb (World.block_lt_of_cell? _ _ j0))).trans j2
        clear hb p0 j0 j1 j2
        go_wp2_with (go_at_call 118; (with_reducible refine (SW.out _ HH2.out).mono ?_); rintro e w3 ⟨rfl, h1, h2⟩; have HH3 := Lib.hid h1; have HB3 := Lib.hid (HB2.out.same (h2.block w.heap.size HB2.out.lt HF.out)); have HO3 := Lib.hid (HO2.out.trans h2); clear h1 h2 c0 d0 d1 d2)
        go_step3
        refine ⟨rfl, HK.out (T.length - c) _ _ (by have := HM.out; have := HCN.out; have := HCL.out; have := HL.out; omega) ⟨c, _, T'.set n tp, _, rfl, rfl, by rw [List.length_set]; exact HL.out, by rw [List.length_set] at *; exact HH3.out, by rw [SG.out]; exact ST2.out, by rw [SG.out]; exact SP.out.trans HP.out, HO3.out, HB3.out, _, _, _, _, _, _, _, _, _, _, _, _, _, _, _, _, _, _, _, _, _, _, _, _, _, _, _, _, _, _, _, _, _, _, _, _, _, _,  rfl⟩⟩
    · have C1 : decide ((c : Int) < (T'.length : Int)) = false := by simp; omega
      have C3 : decide (c < T'.length) = false := by simp; omega
      have HD := Lib.hid (HU.out.done fun k k0 hk hp => by
        rw [List.length_set] at hk
        have := HC.out.some (by omega)
        unfold par at hp
        omega)
      clear hraw hcl
      go_wp2
      refine wp_region_calm0 (by kernel_rfl) (by kernel_rfl) fun M => ?_
      have e0 := fun n : In M.w => n.cell (M.cell p0)
      repeat (go_big_quiet_step (fail))
      refine wpQuiet_nil ?_
      clear e0 M
      intro w2 hb
      have HF2 := Lib.hid (show Moved hpL F w w2 p (.slice (some ⟨gb, o, none⟩) T'.length cap) b (T.set i x) x n from ⟨T', g', HH1.out.kept hb, HD.out, HP.out, by rw [HL0.out]; exact HL.out, HO1.out.trans (Only.of_below hb)⟩)
      go_wp2
      simp only [Exit.jump]
      exact bodyPost_ret (v := .int .i64 (n : Int)) (by simp [results, Tryz.results116, go_sem]) rfl ⟨n, rfl, HF2.out⟩
  · intro K hpass
    go_wp2
    go_step3
    rename_i hback
    exact hback _ _ (hpass (T.length - i) _ _ ⟨i, _, T, g, rfl, rfl, rfl, H0.out, U0.out, List.Perm.refl _, HWA.out, HX.out, _, _, _, _, _, _, _, _, _, _, _, _, _, _, _, _, _, _, _, _, _, _, _, _, _, _, _, _, _, _, _, _, _, _, _, _, _, _,  rfl⟩)
end Go.Proofs.YthchkhgimnchcaaGreat
/- Stage 13's program: what is laid in a gap; New, Put. -/
namespace Go.Proofs.YthchkhgimnchcaaGreat
open Go.RowKit

/-- the heap's memory, its places and ids -/
def HpAt (F : Nat → Prop) (w : World) (p : Nat) (v : Value) (b : Nat) (T : List Th) (g : Int → Option Nat) : Prop := RawAt F w p v b T T.length g ∧ Pos T g ∧ ∀ y ∈ T, I64 y.id
theorem GapAt.laid {F : Nat → Prop} {w : World} {p : Nat} {v : Value} {b : Nat} {T : List Th} {g : Int → Option Nat} {i : Nat} {x : Th} (h : GapAt F w p v b T g i x) (hn : T.length ≤ 1000000) :
    Calls Tryz.prog 118 #[ptr13 p, .int .i64 (i : Int), .agg #[.int .i64 x.id, .int .i64 x.key, .int .i64 x.seq]] w fun e w' => e = .returned (.tuple #[]) ∧ HpAt F w' p v b (T.set i x) (upd g x.id (some i)) ∧ Only F w w' := by
  obtain ⟨m, h1, h2, hi, h3, h4⟩ := h
  have hy : I64 x.id := by
    have := h4 ((T.set i x)[i]'(by rw [List.length_set]; exact hi)) (List.getElem_mem _)
    rwa [List.getElem_set_self] at this
  refine (hSet_any i x w h1 hi hn (by split at h2 <;> omega) hy).mono ?_
  rintro e w' ⟨rfl, h5, h6⟩
  rw [h2] at h5
  refine ⟨rfl, ⟨?_, h3, h4⟩, h6⟩
  rw [List.length_set]
  exact h5

set_option maxHeartbeats 4000000 in
set_option maxRecDepth 100000 in
theorem hFill_any {F : Nat → Prop} {p : Nat} {v : Value} {b : Nat} {T : List Th} {g : Int → Option Nat} (i : Nat) (x : Th) (w : World) (h : GapAt F w p v b T g i x) (hu : fixI (T.set i x) i) (hn : T.length ≤ 1000000) :
    Calls Tryz.prog 114 #[ptr13 p, .int .i64 (i : Int), .agg #[.int .i64 x.id, .int .i64 x.key, .int .i64 x.seq]] w fun e w' => e = .returned (.tuple #[]) ∧ ∃ T' g', HpAt F w' p v b T' g' ∧ hp T' ∧ T'.Perm (T.set i x) ∧ Only F w w' := by
  have hal := ((Below.refl w.heap.size w).alloc (Nat.le_refl _) (.cells #[.int .i64 x.id, .int .i64 x.key, .int .i64 x.seq] 150)).drew
  have hX := (Blk.new w [.int .i64 x.id, .int .i64 x.key, .int .i64 x.seq] 150).drew
  have hwa := Only.of_below (F := F) hal
  have hF : ¬ F w.heap.size := fun hf => by obtain ⟨m, h1⟩ := h.raw; have := h1.lt _ hf; omega
  have H0 := h.kept hal
  have hl0 : (T.set i x).length = T.length := List.length_set ..
  have UP := Lib.hid (hUp_any i x _ H0 hu hn)
  have HF := Lib.hid hF
  have HN := Lib.hid hn
  have HL0 := Lib.hid hl0
  have HWA := Lib.hid hwa
  have HXB := Lib.hid hX
  have x0 := hX.cell 0 rfl
  have x1 := hX.cell 1 rfl
  have x2 := hX.cell 2 rfl
  clear h hu hal hl0 hwa hX H0 hF
  go_enter Tryz.func114, Tryz.ntmps114
  go_wp2
  go_region_with (first
    | (go_at_call 117; (with_reducible refine UP.out.mono ?_); rintro e w1 ⟨j, rfl, T1, g1, hG1, hD1, hP1, hl1, hO1⟩; have HX1 := Lib.hid (HXB.out.same (hO1.block _ HXB.out.lt HF.out)); have y0 := HX1.out.cell 0 rfl; have y1 := HX1.out.cell 1 rfl; have y2 := HX1.out.cell 2 rfl; have DN := Lib.hid (hDown_any j x w1 hG1 hD1 (by have := HN.out; have := HL0.out; omega)); have HP1 := Lib.hid hP1; have HL1 := Lib.hid hl1; have HO1 := Lib.hid (HWA.out.trans hO1); clear hG1 hD1 hP1 hl1 hO1)
    | (go_at_call 116; (with_reducible refine DN.out.mono ?_); rintro e w2 ⟨k, rfl, T2, g2, hG2, hD2, hP2, hl2, hO2⟩; have ST := Lib.hid (hG2.laid (by have := HN.out; have := HL0.out; have := HL1.out; rw [List.length_set] at hl2; omega)); have HX2 := HX1.out.same (hO2.block _ HX1.out.lt HF.out); have z0 := HX2.cell 0 rfl; have z1 := HX2.cell 1 rfl; have z2 := HX2.cell 2 rfl; clear HX2; have HD2 := Lib.hid (show hp (T2.set k x) from hD2); have HP2 := Lib.hid (hP2.trans HP1.out); have HO2 := Lib.hid (HO1.out.trans hO2); clear hG2 hD2 hP2 hl2 hO2))
  all_goals (
    go_wp2_with (go_at_call 118; (with_reducible refine ST.out.mono ?_); rintro e w3 ⟨rfl, h3, h4⟩)
    go_end0
    exact ⟨rfl, _, _, h3, HD2.out, HP2.out, HO2.out.trans h4⟩)
end Go.Proofs.YthchkhgimnchcaaGreat
/- Stage 13's program: New, Put, Drop, First, Pop, Has, Len. -/
namespace Go.Proofs.YthchkhgimnchcaaGreat
open Go.RowKit

def frsT : List Th → Int × Bool
  | [] => (0, false)
  | x :: _ => (x.id, true)
/-- a heap of these things, in order; all its blocks are of F -/
def HeapAt (F : Nat → Prop) (w : World) (p : Nat) (S : List Th) : Prop := ∃ v b T g, HpAt F w p v b T g ∧ hp T ∧ T.Perm S ∧ srtT S
section
variable {F : Nat → Prop} {w w' : World} {p : Nat} {S : List Th}
theorem RawAt.out {v : Value} {b m : Nat} {T : List Th} {g : Int → Option Nat} (h : RawAt F w p v b T m g) (hz : w.heap.size ≤ w'.heap.size) (he : ∀ k, F k → w'.heap[k]? = w.heap[k]?) : RawAt F w' p v b T m g :=
  ⟨h.blk.same (he p h.fp), h.own.same hz fun k e => he k (h.fv k e).1, h.map.same (he b h.fb), h.fp, h.fb, h.fv, fun k hk => Nat.lt_of_lt_of_le (h.lt k hk) hz⟩
theorem HeapAt.out (h : HeapAt F w p S) (hz : w.heap.size ≤ w'.heap.size) (he : ∀ k, F k → w'.heap[k]? = w.heap[k]?) : HeapAt F w' p S := by
  obtain ⟨v, b, T, g, ⟨h1, h2⟩, h3⟩ := h
  exact ⟨v, b, T, g, ⟨h1.out hz he, h2⟩, h3⟩
theorem HeapAt.lt (h : HeapAt F w p S) : ∀ k, F k → k < w.heap.size := by
  obtain ⟨v, b, T, g, ⟨h1, h2⟩, h3⟩ := h
  exact h1.lt
theorem HeapAt.kept (h : HeapAt F w p S) (hb : Below w.heap.size w w') : HeapAt F w' p S := h.out hb.size fun k hk => hb.block k (h.lt k hk)
theorem HeapAt.away (h : HeapAt F w p S) (a : Addr) (u : Value) (hf : ¬ F a.block) : HeapAt F (w.setCell a u) p S :=
  h.out (by simp [World.setCell]) fun k hk => Below.heap_setCell w a u k fun e => hf (e ▸ hk)
theorem HeapAt.srt (h : HeapAt F w p S) : srtT S := by
  obtain ⟨v, b, T, g, h1, h2, h3, h4⟩ := h
  exact h4
theorem HeapAt.i64 (h : HeapAt F w p S) : ∀ x ∈ S, I64 x.id := by
  obtain ⟨v, b, T, g, ⟨_, _, h1⟩, h2, h3, h4⟩ := h
  exact fun x hx => h1 x (h3.mem_iff.2 hx)
end
theorem upd_self {g : Int → Option Nat} {id : Int} {i : Nat} (h : g id = some i) : upd g id (some i) = g := by
  funext k
  unfold upd
  by_cases hk : k = id
  · rw [if_pos hk, hk, h]
  · rw [if_neg hk]
theorem pos_has {T S : List Th} {g : Int → Option Nat} (h : Pos T g) (hp : T.Perm S) (id : Int) : hasT S id = (g id).isSome := by
  cases hg : g id with
  | none =>
    cases hh : hasT S id with
    | false => rfl
    | true =>
      obtain ⟨y, hy, e⟩ := hasT_iff.1 hh
      exact absurd e (h.no hg y (hp.mem_iff.2 hy))
  | some i =>
    obtain ⟨hi, e⟩ := (h id i).1 hg
    rw [tg_get _ _ hi] at e
    exact hasT_iff.2 ⟨T[i], hp.mem_iff.1 (List.getElem_mem hi), e⟩

set_option maxHeartbeats 2000000 in
theorem hNew_any (w : World) : Calls Tryz.prog 107 #[] w fun e w' => ∃ p F, e = .returned (ptr13 p) ∧ (∀ k, F k → w.heap.size ≤ k) ∧ HeapAt F w' p [] ∧ Below w.heap.size w w' := by
  have hm := MapN.new w
  have hb := (Below.refl w.heap.size w).alloc (Nat.le_refl _) (.map #[] 0)
  have hr : RawAt (fun k => k = w.heap.size ∨ k = w.heap.size + 1) ((w.alloc (.map #[] 0)).alloc (.cells #[.slice none 0 0, .map (some w.heap.size)] 146)) (w.heap.size + 1) (.slice none 0 0) w.heap.size [] 0 (fun _ => none) := by
    refine ⟨?_, .inl ⟨rfl, rfl⟩, hm.kept ((Below.refl _ _).alloc (Nat.le_refl _) _), .inr rfl, .inl rfl, fun k e => by simp [Value.ownBlock] at e, fun k e => by simp; omega⟩
    have := Blk.new (w.alloc (.map #[] 0)) [.slice none 0 0, .map (some w.heap.size)] 146
    simpa using this
  have HR := Lib.hid hr
  have HB := Lib.hid (hb.alloc (by simp) (.cells #[.slice none 0 0, .map (some w.heap.size)] 146))
  have hmk : (Instr.makeMap 91 none).run Tryz.prog w = .ok (.map (some w.heap.size)) (w.alloc (.map #[] 0)) := by kernel_rfl
  clear hm hb hr
  go_enter Tryz.func107, Tryz.ntmps107
  go_wp2
  go_ret
  exact ⟨_, fun k => k = w.heap.size ∨ k = w.heap.size + 1, rfl, fun k e => by omega, ⟨_, _, [], _, ⟨HR.out, Pos.nil, by simp⟩, fun k h0 hk => by simp at hk, List.Perm.refl _, srtT_nil⟩, HB.out⟩

set_option maxHeartbeats 2000000 in
theorem hFind_any {F : Nat → Prop} {p : Nat} {v : Value} {b m : Nat} {T : List Th} {g : Int → Option Nat} (id : Int) (w : World) (h : RawAt F w p v b T m g) (hi : I64 id) :
    Calls Tryz.prog 113 #[ptr13 p, .int .i64 id] w fun e w' => e = .returned (.tuple #[.int .i64 (((g id).getD 0 : Nat) : Int), .bool (g id).isSome]) ∧ w' = w := by
  have p0 := h.blk.cell 1 rfl
  have HM := Lib.hid h.map
  have HI := Lib.hid hi
  obtain ⟨n, hn⟩ : ∃ n : Int, (((g id).getD 0 : Nat) : Int) = n := ⟨_, rfl⟩
  obtain ⟨t, ht⟩ : ∃ t, (g id).isSome = t := ⟨_, rfl⟩
  rw [hn, ht]
  have HN := Lib.hid hn
  have HT := Lib.hid ht
  clear h hi hn ht
  go_enter Tryz.func113, Tryz.ntmps113
  go_wp2_with (at_lookup; refine wpList_lookN rfl _ _ rfl rfl HM.out id HI.out rfl ?_; rw [HN.out, HT.out])
  exact bodyPost_ret (v := .tuple #[.int .i64 n, .bool t]) (by simp [results, Tryz.results113, go_sem]) rfl ⟨rfl, rfl⟩
theorem hFind_nil (id : Int) (w : World) : Calls Tryz.prog 113 #[.pointer none, .int .i64 id] w fun e w' => e = .returned (.tuple #[.int .i64 0, .bool false]) ∧ w' = w := by
  go_enter Tryz.func113, Tryz.ntmps113
  go_wp2
  exact bodyPost_ret (v := .tuple #[.int .i64 0, .bool false]) (by simp [results, Tryz.results113, go_sem]) rfl ⟨rfl, rfl⟩
end Go.Proofs.YthchkhgimnchcaaGreat
/- Stage 13's program: Put. -/
namespace Go.Proofs.YthchkhgimnchcaaGreat
open Go.RowKit

abbrev zTh : Th := ⟨0, 0, 0⟩
theorem info_hth : (Tryz.prog.info? 150).map (fun i => (i.zero, i.size, i.bytes)) = some (some (.agg #[.int .i64 0, .int .i64 0, .int .i64 0]), 3, 24) := by kernel_rfl
theorem oneZ (w : World) : ThAt (w.alloc (.cells #[.int .i64 0, .int .i64 0, .int .i64 0] 150)) (.slice (some ⟨w.heap.size, 0, none⟩) 1 1) [zTh] := by
  refine ⟨_, 1, rfl, Nat.le_refl _, fun _ => ⟨w.heap.size, 0, rfl, by simp, fun j y hj i u hu => ?_⟩⟩
  have h0 : j = 0 ∧ y = zTh := by
    cases j with
    | zero => simp at hj; exact ⟨rfl, hj.symm⟩
    | succ j => simp at hj
  obtain ⟨rfl, rfl⟩ := h0
  rcases i with _ | _ | _ | i
  · simp [csT] at hu; subst hu; go_simp
  · simp [csT] at hu; subst hu; go_simp
  · simp [csT] at hu; subst hu; go_simp
  · simp [csT] at hu

set_option maxHeartbeats 4000000 in
set_option maxRecDepth 100000 in
theorem hPut_any {F : Nat → Prop} {p : Nat} {S : List Th} (x : Th) (w : World) (h : HeapAt F w p S) (hn : S.length ≤ 1000) (hx : I64 x.id) :
    Calls Tryz.prog 110 #[ptr13 p, .int .i64 x.id, .int .i64 x.key, .int .i64 x.seq] w fun e w' => e = .returned (.bool (!hasT S x.id)) ∧ ∃ F', HeapAt F' w' p (putT S x) ∧ Mv F F' w w' := by
  obtain ⟨v, b, T, g, ⟨hr, hpos, hids⟩, hhp, hP, hS⟩ := h
  have hlen := hP.length_eq
  rw [pos_has hpos hP]
  have HF := Lib.hid (hFind_any x.id w hr hx)
  have HS := Lib.hid (srtT_put hS x)
  cases hg : g x.id with
  | some i =>
    rw [hg] at HF
    simp only [Option.getD_some, Option.isSome_some] at HF ⊢
    obtain ⟨hi, he⟩ := (hpos x.id i).1 hg
    have hl : (T.set i x).length = T.length := List.length_set ..
    have hgap : GapAt F w p v b T g i x := ⟨T.length, hr, by rw [hg]; rfl, hi, by rw [upd_self hg]; exact hpos.set hi he, fun y hy => by
      rcases List.mem_or_eq_of_mem_set hy with h1 | h1
      · exact hids y h1
      · rw [h1]; exact hx⟩
    have HG := Lib.hid (hFill_any i x w hgap (hhp.set hi x) (by omega))
    have HPm := Lib.hid (put_in hpos.dst hP hi he)
    clear hr hpos hids hhp hP hS hlen hg hi he hl hgap
    go_enter Tryz.func110, Tryz.ntmps110
    go_wp2_with (first
      | (go_at_call 113; (with_reducible refine HF.out.mono ?_); rintro e w1 ⟨rfl, rfl⟩)
      | (go_at_call 114; (with_reducible refine HG.out.mono ?_); rintro e w2 ⟨rfl, T', g', h1, h2, h3, h4⟩))
    go_ret
    exact ⟨rfl, F, ⟨v, b, T', g', h1, h2, h3.trans HPm.out, HS.out⟩, ⟨h4, fun k hk => .inl hk⟩⟩
  | none =>
    rw [hg] at HF
    simp only [Option.getD_none, Option.isSome_none] at HF ⊢
    obtain ⟨i0, hi, hz0, hz1, hz2⟩ := info_parts info_hth
    have p0 := hr.blk.cell 0 rfl
    have z0 := hr.blk.free 0 rfl
    obtain ⟨a, c, rfl⟩ := hr.own.form
    have hal := (Below.refl w.heap.size w).alloc (Nat.le_refl _) (.cells #[.int .i64 0, .int .i64 0, .int .i64 0] 150)
    have HO := Lib.hid (hr.own.kept hal)
    have HZ := Lib.hid (oneZ w)
    have HGR := Lib.hid fun (w2 : World) (v' : Value) (ho : OwnO w2 3 csT v' (T ++ [zTh])) hg hv => hr.grow (w1 := w.alloc (.cells #[.int .i64 0, .int .i64 0, .int .i64 0] 150)) hal ho hg hv
    have HBK := Lib.hid fun (w2 : World) (hg : (w.alloc (.cells #[.int .i64 0, .int .i64 0, .int .i64 0] 150)).grownBy w2 (Value.slice a T.length c).ownBlock) => (hr.blk.kept hal).grown hg (fun e => (hr.fv p e.symm).2.1 rfl)
    have hset : (T ++ [zTh]).set T.length x = T ++ [x] := by simp
    have hgap : ∀ F' w' v', RawAt F' w' p v' b (T ++ [zTh]) T.length g → GapAt F' w' p v' b (T ++ [zTh]) g T.length x := fun F' w' v' h1 =>
      ⟨T.length, h1, by rw [hg]; simp, by simp, by rw [hset]; exact hpos.snoc hg, fun y hy => by
        rw [hset] at hy
        rcases List.mem_append.1 hy with h2 | h2
        · exact hids y h2
        · rw [List.mem_singleton.1 h2]; exact hx⟩
    have hfix : fixI ((T ++ [zTh]).set T.length x) T.length := by
      rw [hset]
      have := hhp.snoc x
      exact ⟨fun k h0 hk hne _ => this.rest k h0 hk hne, this.kids⟩
    have HFL := Lib.hid fun F' w' v' (h1 : RawAt F' w' p v' b (T ++ [zTh]) T.length g) => hFill_any T.length x w' (hgap F' w' v' h1) hfix (by simp; omega)
    have HPm := Lib.hid (put_new hP (hpos.no hg))
    have HSE := Lib.hid hset
    have hl1 : T.length ≤ 1000 := by omega
    clear hr hpos hids hhp hP hS hlen hgap hfix hset hg hal hn
    go_enter Tryz.func110, Tryz.ntmps110
    go_wp2_with (first
      | (go_at_call 113; (with_reducible refine HF.out.mono ?_); rintro e w1 ⟨rfl, rfl⟩)
      | (at_builtin; refine wpList_append_o rfl _ _ _ _ rfl csT_len (by decide) csT_one 150 150 i0 (.agg #[.int .i64 0, .int .i64 0, .int .i64 0]) Tryz.underlying144 Tryz.underlying144 hi hz0 hz1 rfl rfl HO.out _ [zTh] rfl HZ.out (by unfold maxLen; simp; omega) (by rw [hz2]; simp; omega) ?_; intro v' w2 h1 h2 h3; have HR := Lib.hid (HGR.out w2 v' h1 h2 h3); have hbk := HBK.out w2 h2; have q0 := hbk.cell 0 rfl; have y0 := hbk.free 0 rfl; obtain ⟨a', c', e'⟩ := h1.form; rw [List.length_append, List.length_singleton] at e'; subst e'; clear h1 h2 h3 hbk)
      | (go_at_call 114; (with_reducible refine (HFL.out _ _ _ HR.out.1).mono ?_); rintro e w2 ⟨rfl, T', g', h1, h2, h3, h4⟩))
    go_ret
    exact ⟨rfl, _, ⟨_, b, T', g', h1, h2, (by rw [HSE.out] at h3; exact h3.trans HPm.out), HS.out⟩, HR.out.2.trans ⟨h4, fun k hk => .inl hk⟩⟩
theorem hPut_nil (x : Th) (w : World) : Calls Tryz.prog 110 #[.pointer none, .int .i64 x.id, .int .i64 x.key, .int .i64 x.seq] w fun e w' => e = .returned (.bool false) ∧ Below w.heap.size w w' := by
  go_enter Tryz.func110, Tryz.ntmps110
  go_wp2
  go_ret
  exact ⟨rfl, Below.refl _ _⟩
end Go.Proofs.YthchkhgimnchcaaGreat
/- Stage 13's program: Drop. -/
namespace Go.Proofs.YthchkhgimnchcaaGreat
open Go.RowKit

theorem RawAt.cut {F : Nat → Prop} {w w2 w3 : World} {p gb o c q : Nat} {b m m' : Nat} {T : List Th} {g g' : Int → Option Nat} (h : RawAt F w p (.slice (some ⟨gb, o, none⟩) (q + 1) c) b T m g) (hq : T.length = q + 1) (hm : MapN w2 b m' g') (hg : w.grownBy w2 (some b)) (hb : Below w2.heap.size w2 w3) :
    RawAt F (w3.setCell ⟨p, 0, none⟩ (.slice (some ⟨gb, o, none⟩) q c)) p (.slice (some ⟨gb, o, none⟩) q c) b T.dropLast m' g' ∧ Only F w (w3.setCell ⟨p, 0, none⟩ (.slice (some ⟨gb, o, none⟩) q c)) := by
  have hpb : some p ≠ some b := fun e => h.ne (by injection e with e; exact e.symm)
  have hv := h.fv gb rfl
  have ho := ((h.own.grown hg fun k e => by simp [Value.ownBlock] at e; subst e; exact fun e => hv.2.2 (by injection e)).kept hb).take csT_len q (by omega)
  have hO := ((Only.grown (F := F) hg fun k e => by injection e with e; subst e; exact h.fb).trans (Only.of_below hb)).set ⟨p, 0, none⟩ (.slice (some ⟨gb, o, none⟩) q c) h.fp
  refine ⟨⟨?_, ?_, ?_, h.fp, h.fb, fun k e => h.fv k e, fun k hk => Nat.lt_of_lt_of_le (h.lt k hk) hO.size⟩, hO⟩
  · have := ((h.blk.grown hg hpb).kept hb).set 0 (.slice (some ⟨gb, o, none⟩) q c)
    simpa using this
  · rw [List.dropLast_eq_take, hq, Nat.add_sub_cancel]
    exact ho.away _ _ fun k e => by simp [Value.ownBlock] at e; subst e; exact hv.2.1
  · exact (hm.kept hb).away _ _ h.ne
theorem uptoT (a : Option Addr) (n c k : Nat) (hk : k ≤ c) (w' : World) : (Instr.sliceAt 144 (.slice a n c) none (some (.int .i64 (k : Int))) none).run Tryz.prog w' = .ok (.slice a k c) w' := by
  have h1 : (k : Int) ≤ (c : Int) := by omega
  simp [go_sem, sliced, h1]
theorem set_dropLast {T : List Th} {i : Nat} (x : Th) : (T.set i x).dropLast = T.dropLast.set i x := by
  rw [List.dropLast_eq_take, List.dropLast_eq_take, List.length_set, List.take_set]

set_option maxHeartbeats 4000000 in
set_option maxRecDepth 100000 in
theorem hDrop_any {F : Nat → Prop} {p : Nat} {S : List Th} (id : Int) (w : World) (h : HeapAt F w p S) (hn : S.length ≤ 1000) (hx : I64 id) :
    Calls Tryz.prog 112 #[ptr13 p, .int .i64 id] w fun e w' => e = .returned (.bool (hasT S id)) ∧ ∃ F', HeapAt F' w' p (dropT S id) ∧ Mv F F' w w' := by
  have HH := Lib.hid h
  obtain ⟨v, b, T, g, ⟨hr, hpos, hids⟩, hhp, hP, hS⟩ := h
  have hlen := hP.length_eq
  rw [pos_has hpos hP]
  have HF := Lib.hid (hFind_any id w hr hx)
  have HS := Lib.hid (srtT_drop hS id)
  cases hg : g id with
  | none =>
    rw [hg] at HF
    simp only [Option.getD_none, Option.isSome_none] at HF ⊢
    have hd : dropT S id = S := dropT_no fun y hy => hpos.no hg y (hP.mem_iff.2 hy)
    rw [hd]
    clear hr hpos hids hhp hP hS hlen hg hd HS
    go_enter Tryz.func112, Tryz.ntmps112
    go_wp2_with (go_at_call 113; (with_reducible refine HF.out.mono ?_); rintro e w1 ⟨rfl, rfl⟩)
    go_ret
    exact ⟨rfl, F, HH.out, Mv.refl _ _⟩
  | some i =>
    rw [hg] at HF
    simp only [Option.getD_some, Option.isSome_some] at HF ⊢
    obtain ⟨hi, he⟩ := (hpos id i).1 hg
    obtain ⟨q, hq⟩ : ∃ q, T.length = q + 1 := ⟨T.length - 1, by omega⟩
    obtain ⟨gb, o, c, rfl, hlc, ⟨j0, j1, j2⟩, _⟩ := hr.own.th q (by omega)
    have hl : q = T.length - 1 := by omega
    have HM := Lib.hid hr.map
    have HX := Lib.hid hx
    have p1 := hr.blk.cell 1 rfl
    have HB := Lib.hid fun (w2 : World) (hg : w.grownBy w2 (some b)) => hr.blk.grown hg (fun e => hr.ne (by injection e with e; exact e.symm))
    have HO := Lib.hid fun (w2 : World) (hg : w.grownBy w2 (some b)) => (hr.own.grown hg fun k e => by simp [Value.ownBlock] at e; subst e; exact fun e => (hr.fv gb rfl).2.2 (by injection e)).th q (by omega)
    rw [hq] at hr HO HB HM
    have HC := Lib.hid fun (w2 w3 : World) (m' : Nat) g' (hm : MapN w2 b m' g') hg hb => hr.cut (w2 := w2) (w3 := w3) hq hm hg hb
    have hqc : q ≤ c := by omega
    have hup := uptoT (some ⟨gb, o, none⟩) (q + 1) c q hqc
    have q0 : (0 : Int) ≤ (q : Int) := by omega
    have q1 : (q : Int) ≤ 1000 := by omega
    have hin : tg T q = (tg T (T.length - 1)) := by rw [hl]
    by_cases hiq : i < q
    · have c1 : (i : Int) < (q : Int) := by omega
      have hne : (tg T q).id ≠ id := fun e => by
        have := hpos.dst.inj (show q < T.length by omega) hi (by rw [e, he])
        omega
      have hsl : T.dropLast.length = q := by rw [List.length_dropLast]; omega
      have hgs : (g (tg T q).id) = some q := hpos.some (by omega)
      have hgap : ∀ w', RawAt F w' p (.slice (some ⟨gb, o, none⟩) q c) b T.dropLast q (upd g id none) → GapAt F w' p (.slice (some ⟨gb, o, none⟩) q c) b T.dropLast (upd g id none) i (tg T q) := fun w' h1 =>
        ⟨q, h1, by unfold upd; rw [if_neg hne, hgs, hsl]; rfl, by omega, by
          have h2 := hpos.over (show i < T.length - 1 by omega)
          rw [set_dropLast, ← hin, he] at h2
          have e : upd (upd g (tg T q).id (some i)) id none = upd (upd g id none) (tg T q).id (some i) := by
            funext k
            unfold upd
            by_cases hk : k = id
            · rw [if_pos hk, if_neg (fun h => hne (by rw [← h, hk])), if_pos hk]
            · rw [if_neg hk, if_neg hk]
          rwa [e] at h2, fun y hy => by
          rcases List.mem_or_eq_of_mem_set hy with h1 | h1
          · exact hids y (List.dropLast_subset _ h1)
          · rw [h1, tg_get _ _ (by omega)]
            exact hids _ (List.getElem_mem _)⟩
      have hfix : fixI (T.dropLast.set i (tg T q)) i := by
        rw [← set_dropLast]
        exact (hhp.set hi (tg T q)).pop
      have hpm := drop_last hpos.dst hP hi
      rw [set_dropLast, ← hin, he] at hpm
      have HPm := Lib.hid hpm
      have HFL := Lib.hid fun w' h1 => hFill_any i (tg T q) w' (hgap w' h1) hfix (by rw [hsl]; omega)
      have HG := Lib.hid (show (g id).isSome = true by rw [hg]; rfl)
      clear hr hpos hids hhp hP hS hlen hg hi he hl hx hgap hfix hpm hin hsl hne hgs j0 j1 j2 hn
      generalize tg T q = x at *
      obtain ⟨x1, x2, x3⟩ := x
      simp only at HFL HO
      go_enter Tryz.func112, Tryz.ntmps112
      go_wp2_with (first
        | (go_at_call 113; (with_reducible refine HF.out.mono ?_); rintro e w1 ⟨rfl, rfl⟩)
        | (at_delete; refine wpList_delN rfl rfl _ _ rfl rfl HM.out id HX.out rfl ?_; intro w2 hm2 hg2; rw [HG.out, if_pos rfl, Nat.add_sub_cancel] at hm2; have HCC := Lib.hid fun w3 hb => HC.out w2 w3 q _ hm2 hg2 hb; have hbk := HB.out w2 hg2; have u0 := hbk.cell 0 rfl; have f0 := hbk.free 0 rfl; have hal := (Below.refl w2.heap.size w2).alloc (Nat.le_refl _) (.cells #[.int .i64 x1, .int .i64 x2, .int .i64 x3] 150); have hbl := hbk.kept hal; have u1 := hbl.cell 0 rfl; have f1 := hbl.free 0 rfl; have HR4 := Lib.hid (HCC.out _ hal); have hx := (Blk.new w2 [.int .i64 x1, .int .i64 x2, .int .i64 x3] 150).away ⟨p, 0, none⟩ (.slice (some ⟨gb, o, none⟩) q c) (fun e => by have := hbk.lt; simp at e; omega); have x0 := hx.cell 0 rfl; have x4 := hx.cell 1 rfl; have x5 := hx.cell 2 rfl; obtain ⟨_, _, _, e, _, ⟨j0, j1, j2⟩, _⟩ := HO.out w2 hg2; cases e; clear hbk hm2 hg2 hal hbl hx HCC)
        | (go_at_call 114; (with_reducible refine (HFL.out _ HR4.out.1).mono ?_); rintro e w4 ⟨rfl, T', g', h1, h2, h3, h4⟩))
      go_ret
      exact ⟨rfl, F, ⟨_, b, T', g', h1, h2, h3.trans HPm.out, HS.out⟩, ⟨HR4.out.2.trans h4, fun k hk => .inl hk⟩⟩
    · have hie : i = q := by omega
      subst hie
      have hsl : T.dropLast.length = i := by rw [List.length_dropLast]; omega
      have hpop : Pos T.dropLast (upd g id none) := by
        have := hpos.pop (by omega)
        rwa [← hl, he] at this
      have hpm := drop_last hpos.dst hP hi
      rw [← hl, he] at hpm
      have hse : (T.set i (tg T i)).dropLast = T.dropLast := by
        rw [tg_get _ _ hi, List.set_getElem_self]
      rw [hse] at hpm
      have HF2 := Lib.hid fun w' (h1 : RawAt F w' p (.slice (some ⟨gb, o, none⟩) i c) b T.dropLast i (upd g id none)) => (show HpAt F w' p (.slice (some ⟨gb, o, none⟩) i c) b T.dropLast (upd g id none) from ⟨by rw [hsl]; exact h1, hpop, fun y hy => hids y (List.dropLast_subset _ hy)⟩)
      have HPO := Lib.hid hhp.pop
      have HPm := Lib.hid hpm
      have HG := Lib.hid (show (g id).isSome = true by rw [hg]; rfl)
      clear hr hpos hids hhp hP hS hlen hg hi he hl hx hpop hpm hin hsl hse j0 j1 j2 hn hiq
      generalize tg T i = x at *
      obtain ⟨x1, x2, x3⟩ := x
      simp only at HO
      go_enter Tryz.func112, Tryz.ntmps112
      go_wp2_with (first
        | (go_at_call 113; (with_reducible refine HF.out.mono ?_); rintro e w1 ⟨rfl, rfl⟩)
        | (at_delete; refine wpList_delN rfl rfl _ _ rfl rfl HM.out id HX.out rfl ?_; intro w2 hm2 hg2; rw [HG.out, if_pos rfl, Nat.add_sub_cancel] at hm2; have HCC := Lib.hid fun w3 hb => HC.out w2 w3 i _ hm2 hg2 hb; have hbk := HB.out w2 hg2; have u0 := hbk.cell 0 rfl; have f0 := hbk.free 0 rfl; have hal := (Below.refl w2.heap.size w2).alloc (Nat.le_refl _) (.cells #[.int .i64 x1, .int .i64 x2, .int .i64 x3] 150); have hbl := hbk.kept hal; have u1 := hbl.cell 0 rfl; have f1 := hbl.free 0 rfl; have HR4 := Lib.hid (HCC.out _ hal); have hx := (Blk.new w2 [.int .i64 x1, .int .i64 x2, .int .i64 x3] 150).away ⟨p, 0, none⟩ (.slice (some ⟨gb, o, none⟩) i c) (fun e => by have := hbk.lt; simp at e; omega); have x0 := hx.cell 0 rfl; have x4 := hx.cell 1 rfl; have x5 := hx.cell 2 rfl; obtain ⟨_, _, _, e, _, ⟨j0, j1, j2⟩, _⟩ := HO.out w2 hg2; cases e; clear hbk hm2 hg2 hal hbl hx HCC))
      go_ret
      exact ⟨rfl, F, ⟨_, b, T.dropLast, _, HF2.out _ HR4.out.1, HPO.out, HPm.out, HS.out⟩, ⟨HR4.out.2, fun k hk => .inl hk⟩⟩
theorem hDrop_nil (id : Int) (w : World) : Calls Tryz.prog 112 #[.pointer none, .int .i64 id] w fun e w' => e = .returned (.bool false) ∧ Below w.heap.size w w' := by
  go_enter Tryz.func112, Tryz.ntmps112
  go_wp2_with (go_at_call 113; (with_reducible refine (hFind_nil _ _).mono ?_); rintro e w1 ⟨rfl, rfl⟩)
  go_ret
  exact ⟨rfl, Below.refl _ _⟩
end Go.Proofs.YthchkhgimnchcaaGreat
/- Stage 13's program: Len, First, Pop, Has. -/
namespace Go.Proofs.YthchkhgimnchcaaGreat
open Go.RowKit

set_option maxHeartbeats 2000000 in
theorem hLen_any {F : Nat → Prop} {p : Nat} {S : List Th} (w : World) (h : HeapAt F w p S) (_hn : S.length ≤ 1000) :
    Calls Tryz.prog 115 #[ptr13 p] w fun e w' => e = .returned (.int .i64 (S.length : Int)) ∧ Below w.heap.size w w' := by
  obtain ⟨v, b, T, g, ⟨hr, hpos, hids⟩, hhp, hP, hS⟩ := h
  have p0 := hr.blk.cell 0 rfl
  obtain ⟨a, c, rfl⟩ := hr.own.form
  rw [← hP.length_eq]
  clear hr hpos hids hhp hP hS
  go_enter Tryz.func115, Tryz.ntmps115
  go_wp2
  go_ret
  exact ⟨rfl, Below.refl _ _⟩
theorem hLen_nil (w : World) : Calls Tryz.prog 115 #[.pointer none] w fun e w' => e = .returned (.int .i64 0) ∧ Below w.heap.size w w' := by
  go_enter Tryz.func115, Tryz.ntmps115
  go_wp2
  go_ret
  exact ⟨rfl, Below.refl _ _⟩

set_option maxHeartbeats 2000000 in
theorem hFirst_any {F : Nat → Prop} {p : Nat} {S : List Th} (w : World) (h : HeapAt F w p S) (hn : S.length ≤ 1000) :
    Calls Tryz.prog 111 #[ptr13 p] w fun e w' => e = .returned (.tuple #[.int .i64 (frsT S).1, .bool (frsT S).2]) ∧ Below w.heap.size w w' := by
  have HH := Lib.hid h
  obtain ⟨v, b, T, g, ⟨hr, hpos, hids⟩, hhp, hP, hS⟩ := h
  have hl := hP.length_eq
  have HL := Lib.hid (hLen_any w HH.out hn)
  by_cases h0 : T.length = 0
  · have : S = [] := List.eq_nil_of_length_eq_zero (by omega)
    subst this
    clear hr hpos hids hhp hP hS hl h0 HH
    go_enter Tryz.func111, Tryz.ntmps111
    go_wp2_with (go_at_call 115; (with_reducible refine HL.out.mono ?_); rintro e w1 ⟨rfl, hb⟩)
    exact bodyPost_ret (v := .tuple #[.int .i64 0, .bool false]) (by simp [results, Tryz.results111, go_sem]) rfl ⟨rfl, hb⟩
  · obtain ⟨t, hS2⟩ := first_is hhp hS hP (by omega)
    obtain ⟨gb, o, c, rfl, hlc, ⟨j0, j1, j2⟩, _⟩ := hr.own.th 0 (by omega)
    have p0 := hr.blk.cell 0 rfl
    have hfr : frsT S = ((tg T 0).id, true) := by rw [hS2]; rfl
    rw [hfr]
    have h9 : ((S.length : Int) == 0) = false := beq_noI (by omega)
    have hpos2 : (0 : Int) < (T.length : Int) := by omega
    rw [Nat.zero_mul, Nat.add_zero] at j0
    generalize (tg T 0).id = x at *
    generalize S.length = n at *
    clear hr hpos hids hhp hP hS hl h0 HH hS2 hfr j1 j2 hn
    go_enter Tryz.func111, Tryz.ntmps111
    go_wp2_with (go_at_call 115; (with_reducible refine HL.out.mono ?_); rintro e w1 ⟨rfl, hb⟩; have q0 := (World.cell?_of_block (a := ⟨p, 0, none⟩) (hb.block p (World.block_lt_of_cell? _ _ p0))).trans p0; have k0 := (World.cell?_of_block (a := ⟨gb, o, none⟩) (hb.block gb (World.block_lt_of_cell? _ _ j0))).trans j0; have HB := Lib.hid hb; clear hb p0 j0)
    exact bodyPost_ret (v := .tuple #[.int .i64 x, .bool true]) (by simp [results, Tryz.results111, go_sem]) rfl ⟨rfl, HB.out⟩
theorem hFirst_nil (w : World) : Calls Tryz.prog 111 #[.pointer none] w fun e w' => e = .returned (.tuple #[.int .i64 0, .bool false]) ∧ Below w.heap.size w w' := by
  go_enter Tryz.func111, Tryz.ntmps111
  go_wp2_with (go_at_call 115; (with_reducible refine (hLen_nil _).mono ?_); rintro e w1 ⟨rfl, hb⟩)
  exact bodyPost_ret (v := .tuple #[.int .i64 0, .bool false]) (by simp [results, Tryz.results111, go_sem]) rfl ⟨rfl, hb⟩

set_option maxHeartbeats 2000000 in
theorem hPop_any {F : Nat → Prop} {p : Nat} {S : List Th} (w : World) (h : HeapAt F w p S) (hn : S.length ≤ 1000) :
    Calls Tryz.prog 109 #[ptr13 p] w fun e w' => e = .returned (.tuple #[.int .i64 (frsT S).1, .bool (frsT S).2]) ∧ ∃ F', HeapAt F' w' p (S.drop 1) ∧ Mv F F' w w' := by
  have HF := Lib.hid (hFirst_any w h hn)
  have hid : I64 (frsT S).1 := by
    cases S with
    | nil => exact nat64 (n := 0) (by omega)
    | cons x t => exact h.i64 x List.mem_cons_self
  have hD := fun w1 (hb : Below w.heap.size w w1) => hDrop_any (frsT S).1 w1 (h.kept hb) hn hid
  have hd : dropT S (frsT S).1 = S.drop 1 ∧ hasT S (frsT S).1 = (frsT S).2 := by
    obtain ⟨v, b, T, g, ⟨hr, hpos, hids⟩, hhp, hP, hS⟩ := h
    cases S with
    | nil => exact ⟨rfl, rfl⟩
    | cons x t =>
      have hdst : Dst (x :: t) := hpos.dst.perm hP
      have hne : ∀ y ∈ t, y.id ≠ x.id := fun y hy e => by
        unfold Dst at hdst
        rw [List.map_cons, List.nodup_cons] at hdst
        exact hdst.1 (e ▸ List.mem_map_of_mem hy)
      refine ⟨?_, hasT_iff.2 ⟨x, List.mem_cons_self, rfl⟩⟩
      show dropT (x :: t) x.id = t
      unfold dropT
      rw [List.filter_cons_of_neg (by simp)]
      exact List.filter_eq_self.2 fun y hy => by simpa using hne y hy
  rw [hd.1, hd.2] at hD
  have HD := Lib.hid hD
  generalize (frsT S).1 = id at *
  generalize (frsT S).2 = t at *
  clear h hd hD hid
  go_enter Tryz.func109, Tryz.ntmps109
  go_wp2_with (first
    | (go_at_call 111; (with_reducible refine HF.out.mono ?_); rintro e w1 ⟨rfl, hb⟩; have HB := Lib.hid hb; clear hb)
    | (go_at_call 112; (with_reducible refine (HD.out _ HB.out).mono ?_); rintro e w2 ⟨rfl, F', h1, h2⟩))
  exact bodyPost_ret (v := .tuple #[.int .i64 id, .bool t]) (by simp [results, Tryz.results109, go_sem]) rfl ⟨rfl, F', h1, (Mv.of_below HB.out).trans h2⟩
theorem hPop_nil (w : World) : Calls Tryz.prog 109 #[.pointer none] w fun e w' => e = .returned (.tuple #[.int .i64 0, .bool false]) ∧ Below w.heap.size w w' := by
  go_enter Tryz.func109, Tryz.ntmps109
  go_wp2_with (first
    | (go_at_call 111; (with_reducible refine (hFirst_nil _).mono ?_); rintro e w1 ⟨rfl, hb⟩; have HB := Lib.hid hb; clear hb)
    | (go_at_call 112; (with_reducible refine (hDrop_nil _ _).mono ?_); rintro e w2 ⟨rfl, h1⟩))
  exact bodyPost_ret (v := .tuple #[.int .i64 0, .bool false]) (by simp [results, Tryz.results109, go_sem]) rfl ⟨rfl, HB.out.trans (h1.mono HB.out.size)⟩

theorem fnd_pos {T S : List Th} {g : Int → Option Nat} (h : Pos T g) (hp : T.Perm S) (id : Int) : fndT S id = match g id with | some i => (tg T i, true) | none => (⟨0, 0, 0⟩, false) := by
  unfold fndT
  cases hg : g id with
  | none =>
    have : S.find? (fun x => decide (x.id = id)) = none := List.find?_eq_none.2 fun y hy => by simpa using h.no hg y (hp.mem_iff.2 hy)
    rw [this]
  | some i =>
    obtain ⟨hi, e⟩ := (h id i).1 hg
    have hm : tg T i ∈ S := by rw [tg_get _ _ hi]; exact hp.mem_iff.1 (List.getElem_mem hi)
    cases hf : S.find? (fun x => decide (x.id = id)) with
    | none => exact absurd e (by simpa using List.find?_eq_none.1 hf _ hm)
    | some y =>
      have h1 := List.find?_some hf
      have h2 := List.mem_of_find?_eq_some hf
      obtain ⟨j, hj, ej⟩ := List.getElem_of_mem (hp.mem_iff.2 h2)
      have h3 := (h id j).2 ⟨hj, by rw [tg_get _ _ hj, ej]; simpa using h1⟩
      rw [hg] at h3
      cases h3
      show (y, true) = (tg T i, true)
      rw [tg_get _ _ hi, ej]

end Go.Proofs.YthchkhgimnchcaaGreat
/- Stage 16's program: putIfFree; what eachFree keeps. -/
namespace Go.Proofs.YthchkhgimnchcaaGreat
open Go.RowKit

set_option maxHeartbeats 1000000 in
theorem gPif_any {Fh : Nat → Prop} {p : Nat} {S : List Th} (a : Option Addr) (k c hb ab m : Nat) (g : Int → Option Int) (n x : Int) (w : World) (h : MapI w ab m g) (hh : HeapAt Fh w p S) (hS : S.length ≤ 1000) (hn : I64 n) (hx : (g n).getD 0 = x) :
    Calls Tryz.prog 108 #[grv a k c hb ab, ptr13 p, .int .i64 n] w fun e w' => e = .returned (.tuple #[]) ∧ ∃ Fh', HeapAt Fh' w' p (if x = 0 then putT S (th0 n) else S) ∧ Mv Fh Fh' w w' := by
  have hal := (Below.refl w.heap.size w).alloc (Nat.le_refl _) (.cells #[.slice a k c, .map (some hb), .map (some ab)] 133)
  have hX := Blk.new w [.slice a k c, .map (some hb), .map (some ab)] 133
  have e2 := hX.cell 2 rfl
  have hl := (h.kept hal).look1 hn
  rw [hx] at hl
  have HP := Lib.hid (hPut_any (th0 n) _ (hh.kept hal) hS hn)
  have HH := Lib.hid (hh.kept hal)
  have HB := Lib.hid hal
  clear h hh hX hal hx
  by_cases h0 : x = 0
  · subst h0
    rw [if_pos rfl]
    go_enter Tryz.func108, Tryz.ntmps108
    go_wp2_with (go_at_call 110; (with_reducible refine HP.out.mono ?_); rintro e w2 ⟨rfl, F2, h1, h2⟩)
    go_end0
    exact ⟨rfl, _, h1, (Mv.of_below HB.out).trans h2⟩
  · rw [if_neg h0]
    have hx2 := beq_noI h0
    clear h0
    go_enter Tryz.func108, Tryz.ntmps108
    go_wp2
    go_end0
    exact ⟨rfl, _, HH.out, Mv.of_below HB.out⟩

/-- whom it is told, and what it has gathered: F -/
structure TellJ (J : List Int → (Nat → Prop) → World → Prop) : Prop where
  lt : ∀ {t F w}, J t F w → ∀ k, F k → k < w.heap.size
  out : ∀ {t F w w'}, J t F w → w.heap.size ≤ w'.heap.size → (∀ k, F k → w'.heap[k]? = w.heap[k]?) → J t F w'
/-- the heap (Fh), the levels (lb), what is awaited (ab), who is told (F), the graph (R): apart from one another -/
structure FrSt (J : List Int → (Nat → Prop) → World → Prop) (X R F Fh : Nat → Prop) (w0 w : World) (p : Nat) (S : List Th) (lb lm : Nat) (gl : Int → Option Int) (ab am : Nat) (ga : Int → Option Int) (told : List Int)
    (gx : Nat) (a : Option Addr) (c hb hm : Nat) (gh : Int → Option Hd) (nodes : List Int) (H : Int → List Int) : Prop where
  hh : HeapAt Fh w p S
  hl : MapI w lb lm gl
  ha : MapI w ab am ga
  hj : J told F w
  hg : GrAt R w (.slice a nodes.length c) hb hm gh nodes H
  bx : Blk w gx (grc a nodes.length c hb ab)
  rg : R gx
  jl : ∀ k, F k → k < w.heap.size
  rl : ∀ k, R k → k < w.heap.size
  d1 : ∀ k, Fh k → ¬ F k
  d2 : ∀ k, Fh k → ¬ R k
  d3 : ¬ Fh lb
  d4 : ¬ Fh ab
  d5 : ∀ k, F k → ¬ R k
  d6 : ¬ F lb
  d7 : ¬ F ab
  d8 : ¬ R lb
  d9 : ¬ R ab
  d10 : lb ≠ ab
  xf : ∀ k, F k → X k
  xh : ∀ k, Fh k → X k
  xl : X lb
  xa : X ab
  xw : ∀ k, w0.heap.size ≤ k → X k
  only : Only X w0 w
section
variable {J : List Int → (Nat → Prop) → World → Prop} {X R F F' Fh Fh' : Nat → Prop} {w0 w w' : World} {p : Nat} {S S' : List Th} {lb lm lm' : Nat} {gl gl' : Int → Option Int} {ab am am' : Nat} {ga ga' : Int → Option Int} {told told' : List Int}
  {gx : Nat} {a : Option Addr} {c hb hm : Nat} {gh : Int → Option Hd} {nodes : List Int} {H : Int → List Int}
theorem FrSt.heap (T : TellJ J) (h : FrSt J X R F Fh w0 w p S lb lm gl ab am ga told gx a c hb hm gh nodes H) (hh : HeapAt Fh' w' p S') (m : Mv Fh Fh' w w') : FrSt J X R F Fh' w0 w' p S' lb lm gl ab am ga told gx a c hb hm gh nodes H :=
  ⟨hh, h.hl.same (m.only.block lb h.hl.lt h.d3), h.ha.same (m.only.block ab h.ha.lt h.d4), T.out h.hj m.only.size fun k hk => m.only.block k (h.jl k hk) fun h1 => h.d1 k h1 hk, h.hg.out m.only.size fun k hk => m.only.block k (h.rl k hk) fun h1 => h.d2 k h1 hk,
    h.bx.same (m.only.block gx h.bx.lt fun h1 => h.d2 gx h1 h.rg), h.rg, fun k hk => Nat.lt_of_lt_of_le (h.jl k hk) m.only.size, fun k hk => Nat.lt_of_lt_of_le (h.rl k hk) m.only.size,
    fun k h1 h2 => m.off (h.jl k h2) (fun h3 => h.d1 k h3 h2) h1, fun k h1 h2 => m.off (h.rl k h2) (fun h3 => h.d2 k h3 h2) h1, m.off h.hl.lt h.d3, m.off h.ha.lt h.d4, h.d5, h.d6, h.d7, h.d8, h.d9, h.d10, h.xf,
    fun k hk => (m.sub k hk).elim (h.xh k) fun h1 => h.xw k (Nat.le_trans h.only.size h1), h.xl, h.xa, h.xw, h.only.trans (m.only.mono h.xh)⟩
theorem FrSt.tell (h : FrSt J X R F Fh w0 w p S lb lm gl ab am ga told gx a c hb hm gh nodes H) (T : TellJ J) (hj : J told' F' w') (m : Mv F F' w w') : FrSt J X R F' Fh w0 w' p S lb lm gl ab am ga told' gx a c hb hm gh nodes H :=
  ⟨h.hh.out m.only.size fun k hk => m.only.block k (h.hh.lt k hk) (h.d1 k hk), h.hl.same (m.only.block lb h.hl.lt h.d6), h.ha.same (m.only.block ab h.ha.lt h.d7), hj, h.hg.out m.only.size fun k hk => m.only.block k (h.rl k hk) fun h1 => h.d5 k h1 hk,
    h.bx.same (m.only.block gx h.bx.lt fun h1 => h.d5 gx h1 h.rg), h.rg, T.lt hj, fun k hk => Nat.lt_of_lt_of_le (h.rl k hk) m.only.size,
    fun k h1 h2 => m.off (h.hh.lt k h1) (h.d1 k h1) h2, h.d2, h.d3, h.d4, fun k h1 h2 => m.off (h.rl k h2) (fun h3 => h.d5 k h3 h2) h1, m.off h.hl.lt h.d6, m.off h.ha.lt h.d7, h.d8, h.d9, h.d10,
    fun k hk => (m.sub k hk).elim (h.xf k) fun h1 => h.xw k (Nat.le_trans h.only.size h1), h.xh, h.xl, h.xa, h.xw, h.only.trans (m.only.mono h.xf)⟩
theorem FrSt.lev (T : TellJ J) (h : FrSt J X R F Fh w0 w p S lb lm gl ab am ga told gx a c hb hm gh nodes H) (hl : MapI w' lb lm' gl') (g : w.grownBy w' (some lb)) : FrSt J X R F Fh w0 w' p S lb lm' gl' ab am ga told gx a c hb hm gh nodes H := by
  have hk : ∀ k, k < w.heap.size → k ≠ lb → w'.heap[k]? = w.heap[k]? := fun k h1 h2 => g.block k h1 fun e => h2 (by injection e)
  exact ⟨h.hh.out g.size fun k h1 => hk k (h.hh.lt k h1) fun e => h.d3 (e ▸ h1), hl, h.ha.same (hk ab h.ha.lt (Ne.symm h.d10)), T.out h.hj g.size fun k h1 => hk k (h.jl k h1) fun e => h.d6 (e ▸ h1), h.hg.out g.size fun k h1 => hk k (h.rl k h1) fun e => h.d8 (e ▸ h1),
    h.bx.same (hk gx h.bx.lt fun e => h.d8 (e ▸ h.rg)), h.rg, fun k h1 => Nat.lt_of_lt_of_le (h.jl k h1) g.size, fun k h1 => Nat.lt_of_lt_of_le (h.rl k h1) g.size, h.d1, h.d2, h.d3, h.d4, h.d5, h.d6, h.d7, h.d8, h.d9, h.d10, h.xf, h.xh, h.xl, h.xa, h.xw,
    h.only.trans (Only.grown g fun k e => by injection e with e; exact e ▸ h.xl)⟩
theorem FrSt.awa (T : TellJ J) (h : FrSt J X R F Fh w0 w p S lb lm gl ab am ga told gx a c hb hm gh nodes H) (ha : MapI w' ab am' ga') (g : w.grownBy w' (some ab)) : FrSt J X R F Fh w0 w' p S lb lm gl ab am' ga' told gx a c hb hm gh nodes H := by
  have hk : ∀ k, k < w.heap.size → k ≠ ab → w'.heap[k]? = w.heap[k]? := fun k h1 h2 => g.block k h1 fun e => h2 (by injection e)
  exact ⟨h.hh.out g.size fun k h1 => hk k (h.hh.lt k h1) fun e => h.d4 (e ▸ h1), h.hl.same (hk lb h.hl.lt h.d10), ha, T.out h.hj g.size fun k h1 => hk k (h.jl k h1) fun e => h.d7 (e ▸ h1), h.hg.out g.size fun k h1 => hk k (h.rl k h1) fun e => h.d9 (e ▸ h1),
    h.bx.same (hk gx h.bx.lt fun e => h.d9 (e ▸ h.rg)), h.rg, fun k h1 => Nat.lt_of_lt_of_le (h.jl k h1) g.size, fun k h1 => Nat.lt_of_lt_of_le (h.rl k h1) g.size, h.d1, h.d2, h.d3, h.d4, h.d5, h.d6, h.d7, h.d8, h.d9, h.d10, h.xf, h.xh, h.xl, h.xa, h.xw,
    h.only.trans (Only.grown g fun k e => by injection e with e; exact e ▸ h.xa)⟩
end
end Go.Proofs.YthchkhgimnchcaaGreat
