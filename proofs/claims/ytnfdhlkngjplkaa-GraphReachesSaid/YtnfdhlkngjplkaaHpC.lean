/- Stage 13's program: a row of things with a gap; up. -/
import Derived.Test.YtnfdhlkngjplkaaHpB
namespace Go.Proofs.Ytnfdhlkngjplkaa
open Go.RowKit

/-- the heap, but that x is to be laid at i -/
def GapAt (F : Nat → Prop) (w : World) (p : Nat) (v : Value) (b : Nat) (T : List Th) (g : Int → Option Nat) (i : Nat) (x : Th) : Prop :=
  ∃ m, RawAt F w p v b T m g ∧ (if (g x.id).isSome then m else m + 1) = T.length ∧ i < T.length ∧ Pos (T.set i x) (upd g x.id (some i)) ∧ ∀ y ∈ T.set i x, I64 y.id
section
variable {F : Nat → Prop} {w w' : World} {p : Nat} {v : Value} {b : Nat} {T : List Th} {g : Int → Option Nat} {i : Nat} {x : Th}
theorem GapAt.kept (h : GapAt F w p v b T g i x) (hb : Below w.heap.size w w') : GapAt F w' p v b T g i x := by
  obtain ⟨m, h1, h2⟩ := h
  exact ⟨m, h1.kept hb, h2⟩
theorem GapAt.raw (h : GapAt F w p v b T g i x) : ∃ m, RawAt F w p v b T m g := by
  obtain ⟨m, h1, h2⟩ := h
  exact ⟨m, h1⟩
theorem GapAt.lt (h : GapAt F w p v b T g i x) : i < T.length := by
  obtain ⟨m, h1, h2, h3, h4⟩ := h
  exact h3
theorem tg_in (T : List Th) (i : Nat) (x : Th) (h : i < T.length) : tg (T.set i x) i = x := by rw [tg_set _ _ _ _ h, if_pos rfl]
theorem tg_out (T : List Th) (i j : Nat) (x : Th) (h : i < T.length) (hj : j ≠ i) : tg (T.set i x) j = tg T j := by rw [tg_set _ _ _ _ h, if_neg hj]
/-- what is brought from j to the gap -/
theorem gap_swap {T : List Th} {i j : Nat} {x : Th} (hi : i < T.length) (hji : j ≠ i) : (T.set i (tg T j)).set j x = swapT (T.set i x) i j := by
  unfold swapT
  rw [tg_in _ _ _ hi, tg_out _ _ _ _ hi hji, List.set_set]

set_option maxHeartbeats 1000000 in
theorem hMove_any (j : Nat) (w : World) (h : GapAt F w p v b T g i x) (hj : j < T.length) (hji : j ≠ i) (hn : T.length ≤ 1000000) :
    Calls Try.prog 62 #[ptr13 p, .int .i64 (i : Int), .agg #[.int .i64 (tg T j).id, .int .i64 (tg T j).key, .int .i64 (tg T j).seq]] w fun e w' => e = .returned (.tuple #[]) ∧ GapAt F w' p v b (T.set i (tg T j)) (upd g (tg T j).id (some i)) j x ∧ Only F w w' := by
  obtain ⟨m, h1, h2, hi, h3, h4⟩ := h
  have e1 := tg_in T i x hi
  have e2 := tg_out T i j x hi hji
  have hl : (T.set i x).length = T.length := List.length_set ..
  have hne : (tg T j).id ≠ x.id := fun e => hji (h3.dst.inj (by rw [hl]; exact hj) (by rw [hl]; exact hi) (by rw [e1, e2]; exact e))
  have hg : g (tg T j).id = some j := by
    have := h3.some (show j < (T.set i x).length by rw [hl]; exact hj)
    rw [e2] at this
    unfold upd at this
    rwa [if_neg hne] at this
  have hy : I64 (tg T j).id := by
    rw [← e2, tg_get _ _ (by rw [hl]; exact hj)]
    exact h4 _ (List.getElem_mem _)
  have hm : m ≤ 1000000 := by
    split at h2 <;> omega
  refine (hSet_any i (tg T j) w h1 hi hn hm hy).mono ?_
  rintro e w' ⟨rfl, h5, h6⟩
  rw [hg, Option.isSome_some, if_pos rfl] at h5
  refine ⟨rfl, ⟨m, h5, ?_, by rw [List.length_set]; exact hj, ?_, ?_⟩, h6⟩
  · have e3 : upd g (tg T j).id (some i) x.id = g x.id := by unfold upd; rw [if_neg (Ne.symm hne)]
    rw [e3, List.length_set]
    exact h2
  · rw [gap_swap hi hji]
    have h7 := h3.swap (show i < (T.set i x).length by rw [hl]; exact hi) (show j < (T.set i x).length by rw [hl]; exact hj)
    rw [e1, e2] at h7
    have e4 : upd (upd (upd g x.id (some i)) (tg T j).id (some i)) x.id (some j) = upd (upd g (tg T j).id (some i)) x.id (some j) := by
      funext k
      unfold upd
      by_cases hk : k = x.id
      · rw [if_pos hk, if_pos hk]
      · rw [if_neg hk, if_neg hk, if_neg hk]
    rwa [e4] at h7
  · rw [gap_swap hi hji]
    exact fun y hy => h4 y ((swapT_perm _ i j (by rw [hl]; exact hi) (by rw [hl]; exact hj)).mem_iff.1 hy)
end
theorem par_int {i : Nat} (h : 0 < i) : Int.tdiv ((i : Int) - 1) 2 = (par i : Int) := by
  unfold par
  rw [Int.tdiv_eq_ediv_of_nonneg (by omega)]
  omega

/-- the gap has come to j, and all is in order but what is below it -/
def Moved (D : List Th → Nat → Prop) (F : Nat → Prop) (w w' : World) (p : Nat) (v : Value) (b : Nat) (L : List Th) (x : Th) (j : Nat) : Prop := ∃ T' g', GapAt F w' p v b T' g' j x ∧ D (T'.set j x) j ∧ (T'.set j x).Perm L ∧ T'.length = L.length ∧ Only F w w'

set_option maxHeartbeats 4000000 in
set_option maxRecDepth 100000 in
theorem hUp_any {F : Nat → Prop} {p : Nat} {v : Value} {b : Nat} {T : List Th} {g : Int → Option Nat} (i : Nat) (x : Th) (w : World) (h : GapAt F w p v b T g i x) (hu : fixI (T.set i x) i) (hn : T.length ≤ 1000000) :
    Calls Try.prog 61 #[ptr13 p, .int .i64 (i : Int), .agg #[.int .i64 x.id, .int .i64 x.key, .int .i64 x.seq]] w fun e w' => ∃ j : Nat, e = .returned (.int .i64 (j : Int)) ∧ Moved dnI F w w' p v b (T.set i x) x j := by
  have hal := (Below.refl w.heap.size w).alloc (Nat.le_refl _) (.cells #[.int .i64 x.id, .int .i64 x.key, .int .i64 x.seq] 77)
  have HX := Lib.hid (Blk.new w [.int .i64 x.id, .int .i64 x.key, .int .i64 x.seq] 77)
  have HWA := Lib.hid (Only.of_below (F := F) hal)
  have HF := Lib.hid (show ¬ F w.heap.size from fun hf => by obtain ⟨m, h1⟩ := h.raw; have := h1.lt _ hf; omega)
  have H0 := Lib.hid (h.kept hal)
  have U0 := Lib.hid hu
  have HN := Lib.hid hn
  have HXL : w.heap.size < (w.alloc (.cells #[.int .i64 x.id, .int .i64 x.key, .int .i64 x.seq] 77)).heap.size := by simp
  have HL0 := Lib.hid (show (T.set i x).length = T.length from List.length_set ..)
  clear h hu hal
  go_enter Try.func61, Try.ntmps61
  go_wp2
  refine wp_scope_goto 0 (fun n a' w' => ∃ (X : Int) (T' : List Th) (g' : Int → Option Nat), X = n ∧ T'.length = T.length ∧ GapAt F w' p v b T' g' n x ∧ fixI (T'.set n x) n ∧ (T'.set n x).Perm (T.set i x) ∧ Only F w w' ∧ Blk w' w.heap.size [.int .i64 x.id, .int .i64 x.key, .int .i64 x.seq] ∧ ∃ u2 u3 u4 u6 u7 u8 u9 u10 u11 u12 u13 u14 u15 u16 u17 u18 u19 u20 u21 u22 u23 u24 u25 u26 u27 u28 u29 u30 u31 u32 u33 u34 u35, a' = { tmps := #[ptr13 p, .int .i64 X, u2, u3, u4, .pointer (some ⟨w.heap.size, 0, none⟩), u6, u7, u8, u9, u10, u11, u12, u13, u14, u15, u16, u17, u18, u19, u20, u21, u22, u23, u24, u25, u26, u27, u28, u29, u30, u31, u32, u33, u34, u35], defers := [] }) rfl rfl ?_ ?_
  · rintro n a' w' ⟨X, T', g', hX, hlen, hH, hU, hP, hO, hBx, u2, u3, u4, u6, u7, u8, u9, u10, u11, u12, u13, u14, u15, u16, u17, u18, u19, u20, u21, u22, u23, u24, u25, u26, u27, u28, u29, u30, u31, u32, u33, u34, u35, rfl⟩ K hK
    have HK := Lib.hid hK
    have HH := Lib.hid hH
    have HU := Lib.hid hU
    have HP := Lib.hid hP
    have HO := Lib.hid hO
    have HL := Lib.hid hlen
    have HB := Lib.hid hBx
    have hnl := hH.lt
    clear hK hU hP hO
    by_cases hz : n = 0
    · subst hz
      subst hX
      have HD := Lib.hid (HU.out.dn (.inl rfl))
      clear hH hlen hBx
      go_wp2
      refine wp_region_calm0 (by kernel_rfl) (by kernel_rfl) fun M => ?_
      repeat (go_big_quiet_step (fail))
      refine wpQuiet_nil ?_
      clear M
      intro w1 hb
      have HF2 := Lib.hid (show Moved dnI F w w1 p v b (T.set i x) x 0 from ⟨T', g', HH.out.kept hb, HD.out, HP.out, by rw [HL0.out]; exact HL.out, HO.out.trans (Only.of_below hb)⟩)
      go_wp2
      simp only [Exit.jump]
      exact bodyPost_ret (v := .int .i64 0) (by simp [results, Try.results61, go_sem]) rfl ⟨0, rfl, HF2.out⟩
    · have n0 : 0 < n := by omega
      have hpn : par n < n := by unfold par; omega
      have hpl : par n < T'.length := by omega
      have hpi := par_int n0
      rw [← hX] at hpi
      obtain ⟨m, hraw⟩ := hH.raw
      obtain ⟨gb, o, cap, rfl, hlc, ⟨j0, j1, j2⟩, _⟩ := hraw.own.th (par n) hpl
      have p0 := hraw.blk.cell 0 rfl
      have i0 := hBx.cell 0 rfl
      have i1 := hBx.cell 1 rfl
      have i2 := hBx.cell 2 rfl
      have X0 : decide (0 < X) = true := by simp; omega
      have X4 : decide (0 < n) = true := by simp; omega
      have X5 : (T'.length : Int) ≤ 1000000 := by omega
      have X1 : X < (T'.length : Int) := by omega
      have X2 : (0 : Int) ≤ X := by omega
      have X3 : (0 : Int) < X := by omega
      have Y1 : (par n : Int) < (T'.length : Int) := by omega
      have Y2 : (0 : Int) ≤ (par n : Int) := by omega
      have GA := Lib.hid fun w1 => hAhead_any x (tg T' (par n)) w1
      have SW := Lib.hid fun w1 (h1 : GapAt F w1 p (.slice (some ⟨gb, o, none⟩) T'.length cap) b T' g' n x) => hMove_any (par n) w1 h1 hpl (by omega) (by omega)
      have e1 := tg_in T' n x hnl
      have e2 := tg_out T' n (par n) x hnl (by omega)
      have hsl : (T'.set n x).length = T'.length := List.length_set ..
      have HUP := Lib.hid fun ha => HU.out.up n0 (by rw [e1, e2]; exact ha)
      have ST := Lib.hid fun ha => (HUP.out ha).step n0 (by rw [hsl]; exact hnl) (by rw [e1, e2]; exact ha)
      have HDN := Lib.hid fun ha => HU.out.dn (.inr (by rw [e1, e2]; exact ha))
      have SG := Lib.hid (gap_swap (x := x) hnl (show par n ≠ n by omega))
      have SP := Lib.hid (swapT_perm (T'.set n x) n (par n) (by rw [hsl]; exact hnl) (by rw [hsl]; exact hpl))
      have HPN := Lib.hid hpn
      have HFI := Lib.hid (fun h : upI (swapT (T'.set n x) n (par n)) (par n) => (⟨fun k h0 hk hne _ => h.rest k h0 hk hne, h.kids⟩ : fixI _ _))
      clear hH hlen n0 hz hpn hnl hpl hraw hBx e1 e2 hsl HUP
      cases ha : ahead x (tg T' (par n)) with
      | false =>
        have HD := Lib.hid (HDN.out ha)
        rw [ha] at GA
        subst hX
        generalize tg T' (par n) = tp at *
        generalize par n = q at *
        clear ha HDN ST HFI
        go_wp2
        refine wp_region_calm0 (by kernel_rfl) (by kernel_rfl) fun M => ?_
        have e0 := fun n : In M.w => n.cell (M.cell p0)
        have m0 := fun n : In M.w => n.cell (M.cell i0)
        have m1 := fun n : In M.w => n.cell (M.cell i1)
        have m2 := fun n : In M.w => n.cell (M.cell i2)
        have k0 := fun n : In M.w => n.cell (M.cell j0)
        have k1 := fun n : In M.w => n.cell (M.cell j1)
        have k2 := fun n : In M.w => n.cell (M.cell j2)
        repeat (go_big_quiet_step ((go_at_call 65; with_reducible exact In.call (GA.out _))))
        refine wpQuiet_nil ?_
        clear e0 m0 m1 m2 k0 k1 k2 M
        intro w1 hb
        have HF2 := Lib.hid (show Moved dnI F w w1 p (.slice (some ⟨gb, o, none⟩) T'.length cap) b (T.set i x) x n from ⟨T', g', HH.out.kept hb, HD.out, HP.out, by rw [HL0.out]; exact HL.out, HO.out.trans (Only.of_below hb)⟩)
        go_wp2
        simp only [Exit.jump]
        exact bodyPost_ret (v := .int .i64 (n : Int)) (by simp [results, Try.results61, go_sem]) rfl ⟨n, rfl, HF2.out⟩
      | true =>
        have ST2 := Lib.hid (HFI.out (ST.out ha))
        rw [ha] at GA
        subst hX
        generalize tg T' (par n) = tp at *
        generalize par n = q at *
        clear ha HDN ST HFI
        go_wp2
        refine wp_region_calm0 (by kernel_rfl) (by kernel_rfl) fun M => ?_
        have e0 := fun n : In M.w => n.cell (M.cell p0)
        have m0 := fun n : In M.w => n.cell (M.cell i0)
        have m1 := fun n : In M.w => n.cell (M.cell i1)
        have m2 := fun n : In M.w => n.cell (M.cell i2)
        have k0 := fun n : In M.w => n.cell (M.cell j0)
        have k1 := fun n : In M.w => n.cell (M.cell j1)
        have k2 := fun n : In M.w => n.cell (M.cell j2)
        repeat (go_big_quiet_step ((go_at_call 65; with_reducible exact In.call (GA.out _))))
        refine wpQuiet_nil ?_
        clear e0 m0 m1 m2 k0 k1 k2 M i0 i1 i2
        intro w1 hb
        have HH1 := Lib.hid (HH.out.kept hb)
        have HO1 := Lib.hid (HO.out.trans (Only.of_below hb))
        have HB1 := Lib.hid (HB.out.kept hb)
        have c0 := (World.cell?_of_block (a := ⟨p, 0, none⟩) (hb.block p (World.block_lt_of_cell? _ _ p0))).trans p0
        have d0 := (World.cell?_of_block (a := ⟨gb, o + q * 3, none⟩) (hb.block gb (World.block_lt_of_cell? _ _ j0))).trans j0
        have d1 := (World.cell?_of_block (a := ⟨gb, o + q * 3 + 1, none⟩) (hb.block gb (World.block_lt_of_cell? _ _ j0))).trans j1
        have d2 := (World.cell?_of_block (a := ⟨gb, o + q * 3 + 2, none⟩) (hb.block gb (World.block_lt_of_cell? _ _ j0))).trans j2
        clear hb p0 j0 j1 j2
        go_wp2_with (go_at_call 62; (with_reducible refine (SW.out _ HH1.out).mono ?_); rintro e w2 ⟨rfl, h1, h2⟩; have HH2 := Lib.hid h1; have HB2 := Lib.hid (HB1.out.same (h2.block w.heap.size HB1.out.lt HF.out)); have HO2 := Lib.hid (HO1.out.trans h2); clear h1 h2 c0 d0 d1 d2)
        go_step3
        refine ⟨rfl, HK.out q _ _ HPN.out ⟨_, T'.set n tp, _, rfl, by rw [List.length_set]; exact HL.out, by rw [List.length_set] at *; exact HH2.out, by rw [SG.out]; exact ST2.out, by rw [SG.out]; exact SP.out.trans HP.out, HO2.out, HB2.out, _, _, _, _, _, _, _, _, _, _, _, _, _, _, _, _, _, _, _, _, _, _, _, _, _, _, _, _, _, _, _, _, _,  rfl⟩⟩
  · intro K hpass
    go_wp2
    go_step3
    rename_i hback
    exact hback _ _ (hpass i _ _ ⟨_, T, g, rfl, rfl, H0.out, U0.out, List.Perm.refl _, HWA.out, HX.out, _, _, _, _, _, _, _, _, _, _, _, _, _, _, _, _, _, _, _, _, _, _, _, _, _, _, _, _, _, _, _, _, _,  rfl⟩)
end Go.Proofs.Ytnfdhlkngjplkaa
