/- Stage 14: the document's Order and Sort. -/
import Derived.Test.YtoepodjpempcdaaAgeRefB
namespace Go.Proofs.Ytoepodjpempcdaa
open Go.RowKit

abbrev ItAt (w : World) (v : Value) (l : List It) : Prop := RowsAt w 4 csI4 v l
abbrev OwnIt (w : World) (B : Nat) (v : Value) (l : List It) : Prop := OwnR w B 23 4 csI4 v l
theorem info_it : (Try.prog.info? 23).map (fun i => (i.zero, i.size, i.bytes)) = some (some (.agg #[.int .i64 0, .int .i64 0, .int .i64 0, .int .i64 0]), 4, 32) := by kernel_rfl
theorem ItAt.at {w : World} {v : Value} {l : List It} (h : ItAt w v l) (k : Nat) (hk : k < l.length) :
    ∃ g o c, v = .slice (some ⟨g, o, none⟩) l.length c ∧ l.length ≤ c ∧ g < w.heap.size ∧ w.cell? ⟨g, o + k * 4, none⟩ = some (.int .i64 l[k].id) ∧ w.cell? ⟨g, o + k * 4 + 1, none⟩ = some (.int .i64 l[k].prio) ∧ w.cell? ⟨g, o + k * 4 + 2, none⟩ = some (.int .i64 l[k].since) ∧ w.cell? ⟨g, o + k * 4 + 3, none⟩ = some (.int .i64 l[k].seq) := by
  obtain ⟨g, o, c, e, hc, hg, hx⟩ := h.spot k hk
  exact ⟨g, o, c, e, hc, hg, hx 0 _ rfl, hx 1 _ rfl, hx 2 _ rfl, hx 3 _ rfl⟩
theorem oneIt (w : World) (x : It) : ItAt (w.alloc (.cells #[.int .i64 x.id, .int .i64 x.prio, .int .i64 x.since, .int .i64 x.seq] 23)) (.slice (some ⟨w.heap.size, 0, none⟩) 1 1) [x] := by
  refine ⟨_, 1, rfl, Nat.le_refl _, fun _ => ⟨w.heap.size, 0, rfl, by simp, fun j y hj i u hu => ?_⟩⟩
  have h0 : j = 0 ∧ y = x := by
    cases j with
    | zero => simp at hj; exact ⟨rfl, hj.symm⟩
    | succ j => simp at hj
  obtain ⟨rfl, rfl⟩ := h0
  have hB := Blk.new w [.int .i64 y.id, .int .i64 y.prio, .int .i64 y.since, .int .i64 y.seq] 23
  rcases i with _ | _ | _ | _ | i
  · simp [csI4] at hu; subst hu; exact hB.cell 0 rfl
  · simp [csI4] at hu; subst hu; exact hB.cell 1 rfl
  · simp [csI4] at hu; subst hu; exact hB.cell 2 rfl
  · simp [csI4] at hu; subst hu; exact hB.cell 3 rfl
  · simp [csI4] at hu
theorem stayA_step (x : It) (l : List It) (now rate : Int) (k : Nat) (hk : k < l.length) : stayA x l now rate (k + 1) = if ahA x l[k] now rate then stayA x l now rate k else k + 1 := by
  show (match l[k]? with | some y => if ahA x y now rate then stayA x l now rate k else k + 1 | none => k + 1) = _
  rw [List.getElem?_eq_getElem hk]

/-- the front of a list, as the model cuts it -/
theorem upto14 (a : Option Addr) (n c k : Nat) (hk : k ≤ c) (w' : World) : (Instr.sliceAt 28 (.slice a n c) none (some (.int .i64 (k : Int))) none).run Try.prog w' = .ok (.slice a k c) w' := by
  have h1 : (k : Int) ≤ (c : Int) := by omega
  simp [go_sem, sliced, h1]
/-- what is behind the first k -/
theorem from14 (a : Option Addr) (n c k : Nat) (hk : k ≤ n) (hn : n ≤ c) : ∃ a4 c4, (∀ w', (Instr.sliceAt 28 (.slice a n c) (some (.int .i64 (k : Int))) none none).run Try.prog w' = .ok (.slice a4 (n - k) c4) w') ∧ ∀ (w' : World) (l : List It), l.length = n → ItAt w' (.slice a n c) l → ItAt w' (.slice a4 (n - k) c4) (l.drop k) := by
  have h1 : (k : Int) ≤ (n : Int) := by omega
  by_cases hck : c = k
  · have hc0 : n = k := by omega
    refine ⟨a, 0, fun w' => ?_, fun w' l hl h => ?_⟩
    · simp [go_sem, hck, hc0, sliced]
    · have := restAt13 h k (by omega) a (fun h => by omega)
      rwa [hck, Nat.sub_self] at this
  · refine ⟨a.map (fun x => x.add (k * 4)), c - k, fun w' => ?_, fun w' l hl h => ?_⟩
    · simp [go_sem, sliced, h1]
      exact fun h => absurd h hck
    · exact restAt13 h k (by omega) _ (fun _ g o e => by subst e; simp [Addr.add])

set_option maxHeartbeats 8000000 in
set_option maxRecDepth 100000 in
theorem refOrder_any (va : Value) (l : List It) (now rate : Int) (W : World) (ha : ItAt W va l) (hl : l.length ≤ 100000) :
    Calls Try.prog 32 #[va, .int .i64 now, .int .i64 rate] W fun e w' => ∃ v, e = .returned v ∧ OwnIt w' W.heap.size v (ordA l now rate) ∧ Below W.heap.size W w' := by
  obtain ⟨i0, hi, hz0, hz1, hz2⟩ := info_parts info_it
  have HA := Lib.hid ha
  obtain ⟨a, c, rfl⟩ := RowsAt.form ha
  clear ha
  go_enter Try.func32, Try.ntmps32
  go_wp2
  go_loopw [7, 8] (fun ov iv wr => ∃ (i : Nat), i ≤ l.length ∧ iv = .int .i64 i ∧ OwnIt wr W.heap.size ov (ordA (l.take i) now rate) ∧ Below W.heap.size W wr) (fun _ iv _ => l.length - (intOf iv).toNat)
  case atStart => exact ⟨0, by omega, rfl, OwnR.nil _ _ _ _ _, Below.refl _ _⟩
  case round =>
    obtain ⟨i, hik, rfl, ho, hB⟩ := hrel
    by_cases hlt : i < l.length
    · have hnx := ordA_take l now rate i hlt
      have hOl : (ordA (l.take i) now rate).length = i := by rw [ordA_len, List.length_take]; omega
      obtain ⟨g, o, cc, e, _, hg, c0, c1, c2, c3⟩ := ItAt.at HA.out i hlt
      cases e
      obtain ⟨x, hx⟩ : ∃ x, l[i] = x := ⟨_, rfl⟩
      rw [hx] at hnx c0 c1 c2 c3
      obtain ⟨O, hO⟩ : ∃ O, ordA (l.take i) now rate = O := ⟨_, rfl⟩
      rw [hO] at hnx ho hOl
      obtain ⟨a1, d1, rfl⟩ := RowsAt.form (OwnR.rows csI4_len ho)
      have HC := Lib.hid (fun w' (hb : Below W.heap.size W w') => (⟨(hb.cell (p := ⟨g, o + i * 4, none⟩) hg).trans c0, (hb.cell (p := ⟨g, o + i * 4 + 1, none⟩) hg).trans c1, (hb.cell (p := ⟨g, o + i * 4 + 2, none⟩) hg).trans c2, (hb.cell (p := ⟨g, o + i * 4 + 3, none⟩) hg).trans c3⟩ : _ ∧ _ ∧ _ ∧ _))
      have HNX := Lib.hid hnx
      have HO := Lib.hid ho
      have HB := Lib.hid hB
      have i0' : (0 : Int) ≤ (i : Int) := by omega
      have i1 : (i : Int) < (l.length : Int) := by omega
      have HOL := Lib.hid hOl
      obtain ⟨n, hn⟩ : ∃ n, O.length = n := ⟨_, rfl⟩
      rw [hn] at HO HOL
      have HN := Lib.hid hn
      clear hnx ho hB c0 c1 c2 c3 hx hO hOl
      rw [hn]
      clear hn
      obtain ⟨W1, rfl⟩ : ∃ W1, W1 = wr := ⟨_, rfl⟩
      go_wp2
      go_loopw [9] (fun kv wx => ∃ j : Nat, j ≤ n ∧ kv = .int .i64 j ∧ stayA x O now rate n = stayA x O now rate j ∧ Below W1.heap.size W1 wx) (fun kv _ => (intOf kv).toNat)
      case atStart => exact ⟨n, Nat.le_refl _, rfl, rfl, Below.refl _ _⟩
      case round =>
        obtain ⟨j, hjn, rfl, hst, hbx⟩ := hrel
        have HBX := Lib.hid hbx
        have HST := Lib.hid hst
        have hn1 := HN.out
        have hnd : n ≤ d1 := by
          obtain ⟨_, _, e, h, _⟩ := OwnR.rows csI4_len HO.out
          cases e
          omega
        have HBW := Lib.hid (fun (n : World) (h : Below W1.heap.size W1 n) => HB.out.trans (h.mono HB.out.size))
        have HRR := Lib.hid (fun (n : World) (h : Below W1.heap.size W1 n) => RowsAt.kept (OwnR.rows csI4_len HO.out) h)
        clear hbx hst hn1
        by_cases hj : j = 0
        · have HD := Lib.hid (show decide (0 < j) = false by subst hj; rfl)
          have hst2 : stayA x O now rate n = j := by rw [HST.out]; subst hj; rfl
          have HJ := Lib.hid hj
          clear hj
          go_wp2
          have hd := HD.out
          refine wp_region_calm0 (by kernel_rfl) (by kernel_rfl) fun M => ?_
          repeat (go_big_quiet_step (fail))
          refine wpQuiet_nil ?_
          intro w2 hb2
          clear hd
          have hX2 := HBX.out.trans (hb2.mono HBX.out.size)
          have hR2 := HRR.out w2 hX2
          have hBW := HBW.out w2 hX2
          have HBA := Lib.hid hBW
          have hal := (Below.refl w2.heap.size w2).alloc (Nat.le_refl _) (.cells #[] 23)
          have HE := Lib.hid (OwnR.empty w2 4 csI4 23 w2.heap.size rfl)
          obtain ⟨T, hT⟩ : ∃ T, O.take j = T := ⟨_, rfl⟩
          obtain ⟨D, hD⟩ : ∃ D, O.drop j = D := ⟨_, rfl⟩
          have hTl : T.length = j := by rw [← hT, List.length_take, HN.out]; omega
          have hDl : D.length = n - j := by rw [← hD, List.length_drop, HN.out]
          have hF : ItAt (w2.alloc (.cells #[] 23)) (.slice a1 j d1) T := by
            rw [← hT]
            exact (RowsAt.kept hR2 hal).front j (by have := HN.out; omega)
          obtain ⟨a4, c4, hsl, hrest⟩ := from14 a1 n d1 j hjn hnd
          have hup := upto14 a1 n d1 j (by omega)
          have hG : ∀ w', Below w2.heap.size w2 w' → ItAt w' (.slice a4 (n - j) c4) D := fun w' h => by
            rw [← hD]
            exact hrest w' O HN.out (RowsAt.kept hR2 h)
          have hin : inA O x now rate = T ++ [x] ++ D := by
            unfold inA
            rw [HN.out, hst2, hT, hD]
          obtain ⟨q, hq⟩ : ∃ q, n - j = q := ⟨_, rfl⟩
          rw [hq] at hsl hG hDl
          have HTL := Lib.hid hTl
          have HDL := Lib.hid (show D.length ≤ 100000 by have := HOL.out; omega)
          have HG := Lib.hid hG
          have HIN := Lib.hid hin
          have HF := Lib.hid hF
          have HAL := Lib.hid hal
          have HCX := Lib.hid (fun w' (h : Below w2.heap.size w2 w') => HC.out w' (hBW.trans (h.mono hBW.size)))
          clear hX2 hR2 hBW hal hT hD hTl hDl hF hrest hG hin hq hst2 hb2
          go_upto_region 9 with (at_builtin; refine wpList_append_rows csI4_len (by decide) csI4_one rfl _ _ 28 rfl w2.heap.size 23 i0 (.agg #[.int .i64 0, .int .i64 0, .int .i64 0, .int .i64 0]) 32 Try.underlying28 hi hz0 hz1 hz2 rfl _ _ rfl HE.out _ T rfl HF.out (by unfold maxLen; have := HTL.out; have := HDL.out; have := HOL.out; simp only [List.length_nil]; omega) (by have := HTL.out; have := HDL.out; have := HOL.out; simp only [List.length_nil]; omega) HAL.out.size ?_; intro v3 w3 o3 g3; have HO3 := Lib.hid o3; have HB3 := Lib.hid (OwnR.below HE.out HAL.out HAL.out.size g3); clear o3 g3)
          obtain ⟨q0, q1, q2, q3⟩ := HCX.out w3 HB3.out
          have HB4 := Lib.hid (HB3.out.alloc HB3.out.size (.cells #[.int .i64 x.id, .int .i64 x.prio, .int .i64 x.since, .int .i64 x.seq] 23))
          have HO4 := Lib.hid (OwnR.alloc HO3.out (.cells #[.int .i64 x.id, .int .i64 x.prio, .int .i64 x.since, .int .i64 x.seq] 23))
          have HP4 := Lib.hid (oneIt w3 x)
          go_upto_region 10 with (at_builtin; refine wpList_append_rows csI4_len (by decide) csI4_one rfl _ _ 28 rfl w2.heap.size 23 i0 (.agg #[.int .i64 0, .int .i64 0, .int .i64 0, .int .i64 0]) 32 Try.underlying28 hi hz0 hz1 hz2 rfl _ _ rfl HO4.out _ [x] rfl HP4.out (by unfold maxLen; have := HTL.out; have := HDL.out; have := HOL.out; simp only [List.nil_append, List.length_nil, List.length_cons]; omega) (by have := HTL.out; have := HDL.out; have := HOL.out; simp only [List.nil_append, List.length_nil, List.length_cons]; omega) HB4.out.size ?_; intro v5 w5 o5 g5; have HO5 := Lib.hid o5; have HB5 := Lib.hid (OwnR.below HO4.out HB4.out HB4.out.size g5); clear o5 g5)
          have HG5 := Lib.hid (HG.out w5 HB5.out)
          clear q0 q1 q2 q3
          go_wp2_with (at_builtin; refine wpList_append_rows csI4_len (by decide) csI4_one rfl _ _ 28 rfl w2.heap.size 23 i0 (.agg #[.int .i64 0, .int .i64 0, .int .i64 0, .int .i64 0]) 32 Try.underlying28 hi hz0 hz1 hz2 rfl _ _ rfl HO5.out _ D rfl HG5.out (by unfold maxLen; have := HTL.out; have := HDL.out; have := HOL.out; simp only [List.nil_append, List.length_nil, List.length_append, List.length_cons]; omega) (by have := HTL.out; have := HDL.out; have := HOL.out; simp only [List.nil_append, List.length_nil, List.length_append, List.length_cons]; omega) HB5.out.size ?_; intro v6 w6 o6 g6; have HO6 := Lib.hid o6; have HB6 := Lib.hid (OwnR.below HO5.out HB5.out HB5.out.size g6); clear o6 g6)
          go_roundw
          case rel => exact ⟨i + 1, by omega, by go_num, by rw [HNX.out, HIN.out]; exact OwnR.base13 HO6.out HBA.out.size, HBA.out.trans (HB6.out.mono HBA.out.size)⟩
          case measure => simp [intOf] <;> omega
        · have HD := Lib.hid (show decide (0 < j) = true by simp; omega)
          obtain ⟨m, hjm⟩ : ∃ m, j = m + 1 := ⟨j - 1, by omega⟩
          have hm : m < O.length := by have := HN.out; omega
          obtain ⟨g', o', c', e, _, _, y0, y1, y2, y3⟩ := ItAt.at (HRR.out wr HBX.out) m hm
          injection e with e1 e2 e3
          subst e1
          clear e2
          subst e3
          obtain ⟨p0, p1, p2, p3⟩ := HC.out wr (HBW.out wr HBX.out)
          have hss := stayA_step x O now rate m hm
          obtain ⟨y, hy⟩ : ∃ y, O[m] = y := ⟨_, rfl⟩
          rw [hy] at hss y0 y1 y2 y3
          rw [← hjm] at hss
          have HAH := Lib.hid fun w => refAhead14_any x y now rate w
          have j1 : (j : Int) - 1 = (m : Int) := by omega
          have j2 : (0 : Int) ≤ (m : Int) := by omega
          have j3 : (m : Int) < (n : Int) := by omega
          have j4 : (m : Int) ≤ 100000 := by have := HOL.out; omega
          clear hj hm hy
          generalize ahA x y now rate = t at *
          have HSS := Lib.hid hss
          have HJM := Lib.hid hjm
          clear hss hjm
          cases t with
          | true =>
            go_wp2
            have hd := HD.out
            refine wp_region_calm0 (by kernel_rfl) (by kernel_rfl) fun M => ?_
            have m0 := fun n : In M.w => n.cell (M.cell p0)
            have m1 := fun n : In M.w => n.cell (M.cell p1)
            have m2 := fun n : In M.w => n.cell (M.cell p2)
            have m3 := fun n : In M.w => n.cell (M.cell p3)
            have m4 := fun n : In M.w => n.cell (M.cell y0)
            have m5 := fun n : In M.w => n.cell (M.cell y1)
            have m6 := fun n : In M.w => n.cell (M.cell y2)
            have m7 := fun n : In M.w => n.cell (M.cell y3)
            repeat (go_big_quiet_step ((go_at_call 12; with_reducible exact In.call (HAH.out _))))
            refine wpQuiet_nil ?_
            intro w2 hb2
            go_wp2
            go_roundw
            case rel => exact ⟨m, by have := HJM.out; omega, by go_num, by rw [HST.out, HSS.out]; simp, HBX.out.trans (hb2.mono HBX.out.size)⟩
            case measure => have := HJM.out; simp [intOf]; omega
          | false =>
            have hst2 : stayA x O now rate n = j := by rw [HST.out, HSS.out, if_neg (by decide)]
            go_wp2
            have hd := HD.out
            refine wp_region_calm0 (by kernel_rfl) (by kernel_rfl) fun M => ?_
            have m0 := fun n : In M.w => n.cell (M.cell p0)
            have m1 := fun n : In M.w => n.cell (M.cell p1)
            have m2 := fun n : In M.w => n.cell (M.cell p2)
            have m3 := fun n : In M.w => n.cell (M.cell p3)
            have m4 := fun n : In M.w => n.cell (M.cell y0)
            have m5 := fun n : In M.w => n.cell (M.cell y1)
            have m6 := fun n : In M.w => n.cell (M.cell y2)
            have m7 := fun n : In M.w => n.cell (M.cell y3)
            repeat (go_big_quiet_step ((go_at_call 12; with_reducible exact In.call (HAH.out _))))
            refine wpQuiet_nil ?_
            intro w2 hb2
            clear hd j1 j2 j3 j4 y0 y1 y2 y3 p0 p1 p2 p3
            have hX2 := HBX.out.trans (hb2.mono HBX.out.size)
            have hR2 := HRR.out w2 hX2
            have hBW := HBW.out w2 hX2
            have HBA := Lib.hid hBW
            have hal := (Below.refl w2.heap.size w2).alloc (Nat.le_refl _) (.cells #[] 23)
            have HE := Lib.hid (OwnR.empty w2 4 csI4 23 w2.heap.size rfl)
            obtain ⟨T, hT⟩ : ∃ T, O.take j = T := ⟨_, rfl⟩
            obtain ⟨D, hD⟩ : ∃ D, O.drop j = D := ⟨_, rfl⟩
            have hTl : T.length = j := by rw [← hT, List.length_take, HN.out]; omega
            have hDl : D.length = n - j := by rw [← hD, List.length_drop, HN.out]
            have hF : ItAt (w2.alloc (.cells #[] 23)) (.slice (some ⟨g', o', none⟩) j d1) T := by
              rw [← hT]
              exact (RowsAt.kept hR2 hal).front j (by have := HN.out; omega)
            obtain ⟨a4, c4, hsl, hrest⟩ := from14 (some ⟨g', o', none⟩) n d1 j hjn hnd
            have hup := upto14 (some ⟨g', o', none⟩) n d1 j (by omega)
            have hG : ∀ w', Below w2.heap.size w2 w' → ItAt w' (.slice a4 (n - j) c4) D := fun w' h => by
              rw [← hD]
              exact hrest w' O HN.out (RowsAt.kept hR2 h)
            have hin : inA O x now rate = T ++ [x] ++ D := by
              unfold inA
              rw [HN.out, hst2, hT, hD]
            obtain ⟨q, hq⟩ : ∃ q, n - j = q := ⟨_, rfl⟩
            rw [hq] at hsl hG hDl
            have HTL := Lib.hid hTl
            have HDL := Lib.hid (show D.length ≤ 100000 by have := HOL.out; omega)
            have HG := Lib.hid hG
            have HIN := Lib.hid hin
            have HF := Lib.hid hF
            have HAL := Lib.hid hal
            have HCX := Lib.hid (fun w' (h : Below w2.heap.size w2 w') => HC.out w' (hBW.trans (h.mono hBW.size)))
            clear hX2 hR2 hBW hal hT hD hTl hDl hF hrest hG hin hq hst2 hb2
            go_upto_region 9 with (at_builtin; refine wpList_append_rows csI4_len (by decide) csI4_one rfl _ _ 28 rfl w2.heap.size 23 i0 (.agg #[.int .i64 0, .int .i64 0, .int .i64 0, .int .i64 0]) 32 Try.underlying28 hi hz0 hz1 hz2 rfl _ _ rfl HE.out _ T rfl HF.out (by unfold maxLen; have := HTL.out; have := HDL.out; have := HOL.out; simp only [List.length_nil]; omega) (by have := HTL.out; have := HDL.out; have := HOL.out; simp only [List.length_nil]; omega) HAL.out.size ?_; intro v3 w3 o3 g3; have HO3 := Lib.hid o3; have HB3 := Lib.hid (OwnR.below HE.out HAL.out HAL.out.size g3); clear o3 g3)
            obtain ⟨q0, q1, q2, q3⟩ := HCX.out w3 HB3.out
            have HB4 := Lib.hid (HB3.out.alloc HB3.out.size (.cells #[.int .i64 x.id, .int .i64 x.prio, .int .i64 x.since, .int .i64 x.seq] 23))
            have HO4 := Lib.hid (OwnR.alloc HO3.out (.cells #[.int .i64 x.id, .int .i64 x.prio, .int .i64 x.since, .int .i64 x.seq] 23))
            have HP4 := Lib.hid (oneIt w3 x)
            go_upto_region 10 with (at_builtin; refine wpList_append_rows csI4_len (by decide) csI4_one rfl _ _ 28 rfl w2.heap.size 23 i0 (.agg #[.int .i64 0, .int .i64 0, .int .i64 0, .int .i64 0]) 32 Try.underlying28 hi hz0 hz1 hz2 rfl _ _ rfl HO4.out _ [x] rfl HP4.out (by unfold maxLen; have := HTL.out; have := HDL.out; have := HOL.out; simp only [List.nil_append, List.length_nil, List.length_cons]; omega) (by have := HTL.out; have := HDL.out; have := HOL.out; simp only [List.nil_append, List.length_nil, List.length_cons]; omega) HB4.out.size ?_; intro v5 w5 o5 g5; have HO5 := Lib.hid o5; have HB5 := Lib.hid (OwnR.below HO4.out HB4.out HB4.out.size g5); clear o5 g5)
            have HG5 := Lib.hid (HG.out w5 HB5.out)
            clear q0 q1 q2 q3
            go_wp2_with (at_builtin; refine wpList_append_rows csI4_len (by decide) csI4_one rfl _ _ 28 rfl w2.heap.size 23 i0 (.agg #[.int .i64 0, .int .i64 0, .int .i64 0, .int .i64 0]) 32 Try.underlying28 hi hz0 hz1 hz2 rfl _ _ rfl HO5.out _ D rfl HG5.out (by unfold maxLen; have := HTL.out; have := HDL.out; have := HOL.out; simp only [List.nil_append, List.length_nil, List.length_append, List.length_cons]; omega) (by have := HTL.out; have := HDL.out; have := HOL.out; simp only [List.nil_append, List.length_nil, List.length_append, List.length_cons]; omega) HB5.out.size ?_; intro v6 w6 o6 g6; have HO6 := Lib.hid o6; have HB6 := Lib.hid (OwnR.below HO5.out HB5.out HB5.out.size g6); clear o6 g6)
            go_roundw
            case rel => exact ⟨i + 1, by omega, by go_num, by rw [HNX.out, HIN.out]; exact OwnR.base13 HO6.out HBA.out.size, HBA.out.trans (HB6.out.mono HBA.out.size)⟩
            case measure => simp [intOf] <;> omega
    · have hke : i = l.length := by omega
      subst hke
      rw [List.take_length] at ho
      have HO := Lib.hid ho
      clear ho
      go_wp2
      go_ret
      exact ⟨_, rfl, HO.out, hB⟩
end Go.Proofs.Ytoepodjpempcdaa
