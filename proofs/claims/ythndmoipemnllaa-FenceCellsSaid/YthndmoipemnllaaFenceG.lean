/- The walks of package fence: a fence moved, a ring of four. -/
import Derived.Test.YthndmoipemnllaaFenceF
namespace Go.Proofs.Ythndmoipemnllaa
open Go.RowKit

set_option maxHeartbeats 1000000 in
set_option maxRecDepth 100000 in
theorem fRing_any (a b c d : Int) (w : World) :
    Calls Try.prog 15 #[.agg #[.int .i64 a, .int .i64 b], .agg #[.int .i64 c, .int .i64 d]] w fun e w' => ∃ v, e = .returned v ∧ PairsAt w' v [(a, b), (c, b), (c, d), (a, d)] ∧ Below w.heap.size w w' := by
  have hL := fun w e => lit4 w e a b c b c d a d
  have HL := Lib.hid hL
  clear hL
  go_enter Try.func15, Try.ntmps15
  go_wp2
  go_ret
  refine ⟨_, rfl, ?_, (((Below.refl _ _).alloc (Nat.le_refl _) _).alloc (by simp) _).alloc (by simp; omega) _⟩
  have := HL.out ((w.alloc (.cells #[.int .i64 a, .int .i64 b] 23)).alloc (.cells #[.int .i64 c, .int .i64 d] 23)) 23
  simpa using this

set_option maxHeartbeats 4000000 in
set_option maxRecDepth 100000 in
theorem fMove_any (n x y : Int) (va : Value) (l : List (Int × Int)) (w : World) (ha : PairsAt w va l) (hl : l.length ≤ 1000000) :
    Calls Try.prog 13 #[.agg #[.int .i64 n, .int .i64 x, .int .i64 y], va] w fun e w' => ∃ v, e = .returned v ∧ PairsAt w' v (l.map (rmv n x y)) ∧ Below w.heap.size w w' := by
  obtain ⟨i0, hi, hz0, hz1, hz2⟩ := info_parts info_point
  have HA := Lib.hid ha
  have hform : ∃ a c, va = .slice a l.length c := by obtain ⟨a, c, e, _⟩ := ha; exact ⟨a, c, e⟩
  obtain ⟨a, c, rfl⟩ := hform
  clear ha
  have hB0 : Below w.heap.size w (w.alloc (.cells #[.int .i64 n, .int .i64 x, .int .i64 y] 25)) := (Below.refl _ _).alloc (Nat.le_refl _) _
  have C0 := Cell3.new w (.int .i64 n) (.int .i64 x) (.int .i64 y) 25
  have hS0 : (w.alloc (.cells #[.int .i64 n, .int .i64 x, .int .i64 y] 25)).heap.size = w.heap.size + 1 := by simp
  have hR0 : Below (w.heap.size + 1) (w.alloc (.cells #[.int .i64 n, .int .i64 x, .int .i64 y] 25)) (w.alloc (.cells #[.int .i64 n, .int .i64 x, .int .i64 y] 25)) := Below.refl _ _
  go_enter Try.func13, Try.ntmps13
  obtain ⟨w0, hw0⟩ : ∃ w0, w.alloc (.cells #[.int .i64 n, .int .i64 x, .int .i64 y] 25) = w0 := ⟨_, rfl⟩
  go_wp2
  rw [hw0] at hB0 C0 hS0 hR0
  have HB0 := Lib.hid hB0
  have HC0 := Lib.hid C0
  clear hB0 C0 hw0
  go_loopw [5, 7, 10] (fun v _ i wr => ∃ k : Nat, k ≤ l.length ∧ i = .int .i64 k ∧ OwnP wr (w.heap.size + 1) 23 v ((l.take k).map (rmv n x y)) ∧ Below (w.heap.size + 1) w0 wr) (fun _ _ i _ => l.length - (intOf i).toNat)
  case atStart => exact ⟨0, Nat.zero_le _, rfl, OwnP.nil _ _ _, hR0⟩
  case round =>
    clear hR0
    obtain ⟨k, hk, rfl, hown, hB⟩ := hrel
    have HB := Lib.hid (HB0.out.trans (hB.mono (by omega)))
    by_cases hlt : k < l.length
    · have HAR := Lib.hid (HA.out.kept HB.out)
      have hm := take_map_next (rmv n x y) l k hlt
      obtain ⟨g, o, c', ev, hc, hg, p1, p2⟩ := HAR.out.spot k hlt
      cases ev
      obtain ⟨⟨x1, y1⟩, hq⟩ : ∃ q, pat l k = q := ⟨_, rfl⟩
      rw [hq] at p1 p2 hm
      have hdo := fun w => mdo_any n x y x1 y1 w
      obtain ⟨⟨r1, r2⟩, hr⟩ : ∃ r, rmv n x y (x1, y1) = r := ⟨_, rfl⟩
      have hr1 : (rot (qr n) (fx x1) (fx y1)).1 + fx x = r1 := congrArg Prod.fst hr
      have hr2 : (rot (qr n) (fx x1) (fx y1)).2 + fx y = r2 := congrArg Prod.snd hr
      rw [hr1, hr2] at hdo
      rw [hr] at hm
      have HM := Lib.hid hm
      have HD := Lib.hid hdo
      have hsz : w.heap.size + 1 ≤ wr.heap.size := by have := hB.size; omega
      have hB1 := hB.alloc hsz (.cells #[.int .i64 x1, .int .i64 y1] 23)
      obtain ⟨c0, c1, c2, _, _, _⟩ := HC0.out.below hB1 (by omega)
      have HO := Lib.hid (hown.alloc (.cells #[.int .i64 x1, .int .i64 y1] 23))
      have hsz1 : w.heap.size + 1 ≤ (wr.alloc (.cells #[.int .i64 x1, .int .i64 y1] 23)).heap.size := by have := hB1.size; omega
      clear hq hr hr1 hr2 hdo hm hown
      have j0 : (0 : Int) ≤ (k : Int) := by omega
      have j1 : (k : Int) < (l.length : Int) := by omega
      simp only at p1 p2
      have hlen : ((l.take k).map (rmv n x y)).length ≤ 1000000 := by simp; omega
      go_wp2_with (first
        | (go_at_call 31; (with_reducible refine (HD.out _).mono ?_); rintro e w1 ⟨rfl, hb⟩; have HO1 := Lib.hid ((HO.out.kept hb).alloc (.cells #[.int .i64 r1, .int .i64 r2] 23)); have hB2 := hB1.trans (hb.mono hsz1); have hzz : w.heap.size + 1 ≤ w1.heap.size := (by have := hB2.size; omega); have hB3 := hB2.alloc hzz (.cells #[.int .i64 r1, .int .i64 r2] 23); have HH := Lib.hid (heap_alloc_new w1 (.cells #[.int .i64 r1, .int .i64 r2] 23)); have hsz3 := hB3.size; clear hb c0 c1 c2 p1 p2 hB1 hB hsz hsz1)
        | (at_builtin; refine wpList_append_own _ rfl _ _ 26 rfl (w.heap.size + 1) 23 i0 (.agg #[.int .i64 0, .int .i64 0]) 2 16 Try.underlying26 hi hz0 hz1 hz2 rfl (by decide) _ _ _ rfl HO1.out ⟨w1.heap.size, 0, none⟩ 1 1 [.int .i64 r1, .int .i64 r2] rfl rfl (World.news_of_block (cs := #[.int .i64 r1, .int .i64 r2]) HH.out) (by intro u hu; simp at hu; rcases hu with rfl | rfl <;> rfl) (by unfold maxLen; omega) (by omega) (by omega) ?_))
      intro v' w3 h1 h2 _
      have o3 : OwnP w3 (w.heap.size + 1) 23 v' ((l.take (k + 1)).map (rmv n x y)) := by
        rw [HM.out]
        unfold OwnP
        have e1 : ((l.take k).map (rmv n x y)).length = k := by simp; omega
        rw [List.length_append, flat_append, e1, List.map_take]
        exact h1
      have hB4 : Below (w.heap.size + 1) w0 w3 := HO1.out.below hB3 (by omega) h2
      have HO3 := Lib.hid o3
      clear h1 h2 o3 hB3 hB2
      go_wp2
      go_roundw
      case rel => exact ⟨k + 1, by omega, by go_num, HO3.out, hB4⟩
      case measure => simp [intOf]; omega
    · have hk2 : k = l.length := by omega
      rw [hk2, List.take_length] at hown
      rw [hk2]
      have HO := Lib.hid hown
      clear hk hk2 hown
      go_wp2
      go_ret
      exact ⟨_, rfl, HO.out.pairs, HB.out⟩
end Go.Proofs.Ythndmoipemnllaa
