/- The walks of package fence: the box. -/
import Derived.Test.YthndmoipemnllaaFenceG
namespace Go.Proofs.Ythndmoipemnllaa
open Go.RowKit

theorem blo_one (l : List (Int × Int)) : blo l 1 = pat l 0 := by
  show (min (pat l 0).1 (pat l 0).1, min (pat l 0).2 (pat l 0).2) = _
  rw [Int.min_self, Int.min_self]
theorem bhi_one (l : List (Int × Int)) : bhi l 1 = pat l 0 := by
  show (max (pat l 0).1 (pat l 0).1, max (pat l 0).2 (pat l 0).2) = _
  rw [Int.max_self, Int.max_self]
theorem frame_of {A : Act} {F : (Nat → Value) → Act} (h : A = F (fun i => A.tmps.getD i undef)) : ∃ f, A = F f := ⟨_, h⟩

set_option maxHeartbeats 4000000 in
set_option maxRecDepth 100000 in
theorem fBox_any (va : Value) (l : List (Int × Int)) (w : World) (ha : PairsAt w va l) (hl : l.length ≤ 9223372036854775807) :
    Calls Try.prog 8 #[va] w fun e w' => e = .returned (.tuple #[.agg #[.int .i64 (blo l l.length).1, .int .i64 (blo l l.length).2], .agg #[.int .i64 (bhi l l.length).1, .int .i64 (bhi l l.length).2]]) ∧ Below w.heap.size w w' := by
  have HA := Lib.hid ha
  have hform : ∃ a c, va = .slice a l.length c := by obtain ⟨a, c, e, _⟩ := ha; exact ⟨a, c, e⟩
  obtain ⟨a, c, rfl⟩ := hform
  clear ha
  obtain ⟨B, hBd⟩ : ∃ B, w.heap.size = B := ⟨_, rfl⟩
  have hB : Below B w ((w.alloc (.cells #[.int .i64 0, .int .i64 0] 23)).alloc (.cells #[.int .i64 0, .int .i64 0] 23)) := ((Below.refl _ _).alloc (by omega) _).alloc (by simp; omega) _
  have C0 := (Cell2.new w (.int .i64 0) (.int .i64 0) 23).alloc (.cells #[.int .i64 0, .int .i64 0] 23)
  have C1 := Cell2.new (w.alloc (.cells #[.int .i64 0, .int .i64 0] 23)) (.int .i64 0) (.int .i64 0) 23
  have hS : ((w.alloc (.cells #[.int .i64 0, .int .i64 0] 23)).alloc (.cells #[.int .i64 0, .int .i64 0] 23)).heap.size = B + 1 + 1 := by simp; omega
  simp only [World.size_alloc, hBd] at C0 C1
  go_enter Try.func8, Try.ntmps8
  go_wp2
  refine wp_scope_goto 0 (fun n a' w' => ∃ (k u v : Nat) (z : Int), z = k ∧ n = l.length - k ∧ 1 ≤ k ∧ k ≤ l.length ∧ B + 1 < u ∧ B + 1 < v ∧ u ≠ v ∧ Below B w w' ∧ Cell2 w' B (.int .i64 0) (.int .i64 0) ∧ Cell2 w' (B + 1) (.int .i64 0) (.int .i64 0) ∧ Cell2 w' u (.int .i64 (blo l k).1) (.int .i64 (blo l k).2) ∧ Cell2 w' v (.int .i64 (bhi l k).1) (.int .i64 (bhi l k).2) ∧ ∃ f : Nat → Value, a' = { tmps := #[.slice a l.length c, f 1, .pointer (some ⟨B, 0, none⟩), .pointer (some ⟨B + 1, 0, none⟩), .pointer (some ⟨u, 0, none⟩), .pointer (some ⟨v, 0, none⟩), .int .i64 z, f 7, f 8, f 9, f 10, f 11, f 12, f 13, f 14, f 15, f 16, f 17, f 18, f 19, f 20, f 21, f 22, f 23, f 24, f 25, f 26, f 27, f 28, f 29, f 30, f 31, f 32, f 33, f 34, f 35, f 36, f 37, f 38, f 39, f 40, f 41, f 42, f 43, f 44, f 45, f 46, f 47, f 48, f 49, f 50, f 51, f 52], defers := [] }) rfl rfl ?_ ?_
  · clear hB C0 C1 hS
    rintro n a' w' ⟨k, u, v, z, rfl, rfl, hk1, hk, hu, hv, huv, hB, C0, C1, C2, C3, f, rfl⟩ K hK
    by_cases hlt : k < l.length
    · obtain ⟨g, o, c', ev, hc, hg, p1, p2⟩ := HA.out.spot k hlt
      cases ev
      rw [hBd] at hg
      replace p1 := (hB.cell hg).trans p1
      replace p2 := (hB.cell hg).trans p2
      have j0 : (0 : Int) ≤ (k : Int) := by omega
      have j1 : (k : Int) < (l.length : Int) := by omega
      obtain ⟨⟨x1, y1⟩, hp⟩ : ∃ p, pat l k = p := ⟨_, rfl⟩
      obtain ⟨⟨a1, a2⟩, ha⟩ : ∃ q, blo l k = q := ⟨_, rfl⟩
      obtain ⟨⟨b1, b2⟩, hb⟩ : ∃ q, bhi l k = q := ⟨_, rfl⟩
      obtain ⟨m1, hm1⟩ : ∃ m, min a1 x1 = m := ⟨_, rfl⟩
      obtain ⟨m2, hm2⟩ : ∃ m, min a2 y1 = m := ⟨_, rfl⟩
      obtain ⟨n1, hn1⟩ : ∃ m, max b1 x1 = m := ⟨_, rfl⟩
      obtain ⟨n2, hn2⟩ : ∃ m, max b2 y1 = m := ⟨_, rfl⟩
      have hlo : blo l (k + 1) = (m1, m2) := by
        rw [blo_next l k (by omega), ha, hp]
        simp only
        rw [hm1, hm2]
      have hhi : bhi l (k + 1) = (n1, n2) := by
        rw [bhi_next l k (by omega), hb, hp]
        simp only
        rw [hn1, hn2]
      rw [hp] at p1 p2
      rw [ha] at C2
      rw [hb] at C3
      simp only at p1 p2 C2 C3
      have HL := Lib.hid hlo
      have HH := Lib.hid hhi
      clear hlo hhi hp ha hb
      have hsz := hB.size
      have u1 := World.block_lt_of_cell? _ _ C2.c0
      have v1 := World.block_lt_of_cell? _ _ C3.c0
      simp only at u1 v1
      have F0 := Lib.hid (((((C0.away ⟨u, 0, none⟩ (.int .i64 m1) (by show u ≠ _; omega)).away ⟨u, 1, none⟩ (.int .i64 m2) (by show u ≠ _; omega)).away ⟨v, 0, none⟩ (.int .i64 n1) (by show v ≠ _; omega)).away ⟨v, 1, none⟩ (.int .i64 n2) (by show v ≠ _; omega)).alloc (.cells #[.int .i64 x1, .int .i64 y1] 23))
      have F1 := Lib.hid (((((C1.away ⟨u, 0, none⟩ (.int .i64 m1) (by show u ≠ _; omega)).away ⟨u, 1, none⟩ (.int .i64 m2) (by show u ≠ _; omega)).away ⟨v, 0, none⟩ (.int .i64 n1) (by show v ≠ _; omega)).away ⟨v, 1, none⟩ (.int .i64 n2) (by show v ≠ _; omega)).alloc (.cells #[.int .i64 x1, .int .i64 y1] 23))
      have F2 := Lib.hid ((((C2.set (.int .i64 m1) (.int .i64 m2)).away ⟨v, 0, none⟩ (.int .i64 n1) (by show v ≠ _; omega)).away ⟨v, 1, none⟩ (.int .i64 n2) (by show v ≠ _; omega)).alloc (.cells #[.int .i64 x1, .int .i64 y1] 23))
      have F3 := Lib.hid ((((C3.away ⟨u, 0, none⟩ (.int .i64 m1) (by show u ≠ _; omega)).away ⟨u, 1, none⟩ (.int .i64 m2) (by show u ≠ _; omega)).set (.int .i64 n1) (.int .i64 n2)).alloc (.cells #[.int .i64 x1, .int .i64 y1] 23))
      have FB := Lib.hid (((((hB.setCell (p := ⟨u, 0, none⟩) (by show B ≤ u; omega) (.int .i64 m1)).setCell (p := ⟨u, 1, none⟩) (by show B ≤ u; omega) (.int .i64 m2)).setCell (p := ⟨v, 0, none⟩) (by show B ≤ v; omega) (.int .i64 n1)).setCell (p := ⟨v, 1, none⟩) (by show B ≤ v; omega) (.int .i64 n2)).alloc (by simp; omega) (.cells #[.int .i64 x1, .int .i64 y1] 23))
      obtain ⟨c20, c21, z20, z21⟩ := C2
      obtain ⟨c30, c31, z30, z31⟩ := C3
      have n3 : v ≠ u := Ne.symm huv
      have n4 : u < v ∨ v < u := by omega
      clear C0 C1 hB
      go_wp2
      go_step3
      refine ⟨rfl, hK (l.length - (k + 1)) _ _ (by omega) ⟨k + 1, u, v, _, by go_num, rfl, by omega, by omega, hu, hv, huv, FB.out, F0.out, F1.out, by rw [HL.out]; exact F2.out, by rw [HH.out]; exact F3.out, frame_of rfl⟩⟩
    · have hk2 : k = l.length := by omega
      rw [hk2] at C2 C3
      rw [hk2]
      clear hk hk2 hK
      obtain ⟨⟨a1, a2⟩, he1⟩ : ∃ q, blo l l.length = q := ⟨_, rfl⟩
      obtain ⟨⟨b1, b2⟩, he2⟩ : ∃ q, bhi l l.length = q := ⟨_, rfl⟩
      rw [he1] at C2
      rw [he2] at C3
      simp only at C2 C3
      have HE1 := Lib.hid he1
      have HE2 := Lib.hid he2
      have n0 : u ≠ B := by omega
      have n1 : v ≠ B := by omega
      have n2 : u ≠ B + 1 := by omega
      have n3 : v ≠ B + 1 := by omega
      clear he1 he2
      go_wp2
      obtain ⟨c00, c01, z00, z01⟩ := C0
      obtain ⟨c10, c11, z10, z11⟩ := C1
      obtain ⟨c20, c21, z20, z21⟩ := C2
      obtain ⟨c30, c31, z30, z31⟩ := C3
      go_region
      go_wp2
      simp only [Exit.jump]
      refine bodyPost_ret (v := .tuple #[.agg #[.int .i64 a1, .int .i64 a2], .agg #[.int .i64 b1, .int .i64 b2]]) ?_ rfl ⟨by rw [HE1.out, HE2.out], by rw [hBd]; exact ((((hB.setCell (by simp) _).setCell (by simp) _).setCell (by simp) _).setCell (by simp) _).drew⟩
      simp [results, Try.results8, go_sem, c00, c01, c10, c11]
  · intro K hpass
    by_cases h0 : l.length = 0
    · have hz0 : l = [] := List.length_eq_zero_iff.1 h0
      subst hz0
      have FB := Lib.hid ((((hB.setCell (p := ⟨B, 0, none⟩) (by show B ≤ B; omega) (.int .i64 0)).setCell (p := ⟨B, 1, none⟩) (by show B ≤ B; omega) (.int .i64 0)).setCell (p := ⟨B + 1, 0, none⟩) (by show B ≤ B + 1; omega) (.int .i64 0)).setCell (p := ⟨B + 1, 1, none⟩) (by show B ≤ B + 1; omega) (.int .i64 0))
      generalize (w.alloc (.cells #[.int .i64 0, .int .i64 0] 23)).alloc (.cells #[.int .i64 0, .int .i64 0] 23) = w0 at *
      obtain ⟨c00, c01, z00, z01⟩ := C0
      obtain ⟨c10, c11, z10, z11⟩ := C1
      simp only [List.length_nil] at h0 ⊢
      go_wp2
      simp only [Exit.jump]
      refine bodyPost_ret (v := .tuple #[.agg #[.int .i64 0, .int .i64 0], .agg #[.int .i64 0, .int .i64 0]]) ?_ rfl ⟨rfl, by rw [hBd]; exact FB.out⟩
      simp [results, Try.results8, go_sem, c00, c01, c10, c11]
    · obtain ⟨g, o, c', ev, hc, hg, p1, p2⟩ := HA.out.spot 0 (by omega)
      cases ev
      rw [hBd] at hg
      simp only [Nat.zero_mul, Nat.add_zero] at p1 p2
      replace p1 := (hB.cell hg).trans p1
      replace p2 := (hB.cell hg).trans p2
      have hlo := blo_one l
      have hhi := bhi_one l
      obtain ⟨⟨x1, y1⟩, hp⟩ : ∃ p, pat l 0 = p := ⟨_, rfl⟩
      rw [hp] at p1 p2 hlo hhi
      simp only at p1 p2
      have h1 : ((l.length : Int) == 0) = false := beq_no' (by omega)
      have h2 : (0 : Int) < (l.length : Int) := by omega
      have HL := Lib.hid hlo
      have HH := Lib.hid hhi
      clear hlo hhi hp
      generalize (w.alloc (.cells #[.int .i64 0, .int .i64 0] 23)).alloc (.cells #[.int .i64 0, .int .i64 0] 23) = w0 at *
      go_wp2
      have hgz : g < w0.heap.size := by omega
      have hu : B + 1 < w0.heap.size := by omega
      have hv : B + 1 < w0.heap.size + 1 := by omega
      have hW1 : Below w0.heap.size w0 ((w0.alloc (.cells #[.int .i64 0, .int .i64 0] 23)).drew) := ((Below.refl _ _).alloc (Nat.le_refl _) _).drew
      have r11 := (hW1.cell (p := ⟨g, o, none⟩) hgz).trans p1
      have r12 := (hW1.cell (p := ⟨g, o + 1, none⟩) hgz).trans p2
      have hW2 : Below w0.heap.size w0 (((w0.alloc (.cells #[.int .i64 0, .int .i64 0] 23)).alloc (.cells #[.int .i64 0, .int .i64 0] 23)).drew) := (((Below.refl _ _).alloc (Nat.le_refl _) _).alloc (by simp) _).drew
      have r21 := (hW2.cell (p := ⟨g, o, none⟩) hgz).trans p1
      have r22 := (hW2.cell (p := ⟨g, o + 1, none⟩) hgz).trans p2
      obtain ⟨a20, a21, a22, a23⟩ := ((Cell2.new w0 (.int .i64 0) (.int .i64 0) 23).alloc (.cells #[.int .i64 0, .int .i64 0] 23)).drew
      have D2 := (Cell2.new (w0.alloc (.cells #[.int .i64 0, .int .i64 0] 23)) (.int .i64 0) (.int .i64 0) 23).drew
      simp only [World.size_alloc] at D2
      obtain ⟨b20, b21, b22, b23⟩ := D2
      have hW3 : Below w0.heap.size w0 (((w0.alloc (.cells #[.int .i64 0, .int .i64 0] 23)).alloc (.cells #[.int .i64 x1, .int .i64 y1] 23)).drew) := (((Below.refl _ _).alloc (Nat.le_refl _) _).alloc (by simp) _).drew
      have r31 := (hW3.cell (p := ⟨g, o, none⟩) hgz).trans p1
      have r32 := (hW3.cell (p := ⟨g, o + 1, none⟩) hgz).trans p2
      obtain ⟨a30, a31, a32, a33⟩ := ((Cell2.new w0 (.int .i64 0) (.int .i64 0) 23).alloc (.cells #[.int .i64 x1, .int .i64 y1] 23)).drew
      have D3 := (Cell2.new (w0.alloc (.cells #[.int .i64 0, .int .i64 0] 23)) (.int .i64 x1) (.int .i64 y1) 23).drew
      simp only [World.size_alloc] at D3
      obtain ⟨b30, b31, b32, b33⟩ := D3
      have hW4 : Below w0.heap.size w0 ((w0.alloc (.cells #[.int .i64 x1, .int .i64 y1] 23)).drew) := ((Below.refl _ _).alloc (Nat.le_refl _) _).drew
      have r41 := (hW4.cell (p := ⟨g, o, none⟩) hgz).trans p1
      have r42 := (hW4.cell (p := ⟨g, o + 1, none⟩) hgz).trans p2
      have hW5 : Below w0.heap.size w0 (((w0.alloc (.cells #[.int .i64 x1, .int .i64 y1] 23)).alloc (.cells #[.int .i64 0, .int .i64 0] 23)).drew) := (((Below.refl _ _).alloc (Nat.le_refl _) _).alloc (by simp) _).drew
      have r51 := (hW5.cell (p := ⟨g, o, none⟩) hgz).trans p1
      have r52 := (hW5.cell (p := ⟨g, o + 1, none⟩) hgz).trans p2
      obtain ⟨a50, a51, a52, a53⟩ := ((Cell2.new w0 (.int .i64 x1) (.int .i64 y1) 23).alloc (.cells #[.int .i64 0, .int .i64 0] 23)).drew
      have D5 := (Cell2.new (w0.alloc (.cells #[.int .i64 x1, .int .i64 y1] 23)) (.int .i64 0) (.int .i64 0) 23).drew
      simp only [World.size_alloc] at D5
      obtain ⟨b50, b51, b52, b53⟩ := D5
      have hW6 : Below w0.heap.size w0 (((w0.alloc (.cells #[.int .i64 x1, .int .i64 y1] 23)).alloc (.cells #[.int .i64 x1, .int .i64 y1] 23)).drew) := (((Below.refl _ _).alloc (Nat.le_refl _) _).alloc (by simp) _).drew
      have r61 := (hW6.cell (p := ⟨g, o, none⟩) hgz).trans p1
      have r62 := (hW6.cell (p := ⟨g, o + 1, none⟩) hgz).trans p2
      obtain ⟨a60, a61, a62, a63⟩ := ((Cell2.new w0 (.int .i64 x1) (.int .i64 y1) 23).alloc (.cells #[.int .i64 x1, .int .i64 y1] 23)).drew
      have D6 := (Cell2.new (w0.alloc (.cells #[.int .i64 x1, .int .i64 y1] 23)) (.int .i64 x1) (.int .i64 y1) 23).drew
      simp only [World.size_alloc] at D6
      obtain ⟨b60, b61, b62, b63⟩ := D6
      have ln : 0 < l.length := by omega
      have HU := Lib.hid (((Cell2.new w0 (.int .i64 x1) (.int .i64 y1) 23).alloc (.cells #[.int .i64 x1, .int .i64 y1] 23)).drew)
      have hV := (Cell2.new (w0.alloc (.cells #[.int .i64 x1, .int .i64 y1] 23)) (.int .i64 x1) (.int .i64 y1) 23).drew
      simp only [World.size_alloc] at hV
      rw [hS] at HU hV
      have HV := Lib.hid hV
      have F0 := Lib.hid (C0.kept hW6)
      have F1 := Lib.hid (C1.kept hW6)
      have FB := Lib.hid (hB.trans (hW6.mono (by omega)))
      clear hV hW1 hW2 hW3 hW4 hW5 hW6 C0 C1 hB
      go_region
      all_goals
        clear r11 r12 r21 r22 r31 r32 r41 r42 r51 r52 r61 r62 a20 a21 a22 a23 a30 a31 a32 a33 a50 a51 a52 a53 a60 a61 a62 a63 b20 b21 b22 b23 b30 b31 b32 b33 b50 b51 b52 b53 b60 b61 b62 b63
        go_wp2
        go_step3
        rename_i hback
        first
          | refine hback _ _ (hpass (l.length - 1) _ _ ⟨1, B + 1 + 1, B + 1 + 1 + 1, _, rfl, rfl, by omega, by omega, by omega, by omega, by omega, FB.out, F0.out, F1.out, by rw [HL.out]; exact HU.out, by rw [HH.out]; exact HV.out, frame_of rfl⟩)
          | refine hback _ _ (hpass (l.length - 1) _ _ ⟨1, B + 1 + 1 + 1, B + 1 + 1, _, rfl, rfl, by omega, by omega, by omega, by omega, by omega, FB.out, F0.out, F1.out, by rw [HL.out]; exact HV.out, by rw [HH.out]; exact HU.out, frame_of rfl⟩)
end Go.Proofs.Ythndmoipemnllaa
