/- Stage 25's document: Turn, Set, Take, Give. -/
import Derived.Test.YtlgemfgikdaelaaRsO
import Derived.Test.YtlgemfgikdaelaaRsRB
namespace Go.Proofs.Ytlgemfgikdaelaa
open Go.RowKit

theorem OwnR.putc {α : Type} {K : Nat} {cs : α → List Value} (hK : ∀ x, (cs x).length = K) {w : World} {B g n cap : Nat} {e : TypeId} {l : List α} (h : OwnR w B e K cs (.slice (some ⟨g, 0, none⟩) n cap) l) (k : Nat) (hk : k < l.length) (q : Nat) (hq : q < K) (u : Value) (y : α) (hy : cs y = (cs l[k]).set q u) :
    OwnR (w.setCell ⟨g, k * K + q, none⟩ u) B e K cs (.slice (some ⟨g, 0, none⟩) n cap) (l.set k y) := by
  unfold OwnR at *
  rw [List.length_set, flats_set hK l k hk q u y hy hq]
  refine ⟨by rw [List.length_set]; exact h.1, ?_⟩
  rcases h.2 with ⟨h0, _⟩ | ⟨g', cap', cur, e2, hg, hh, hnc, hcp, hcs, htake⟩
  · cases h0
  · cases e2
    refine .inr ⟨g, cap, cur.setIfInBounds (k * K + q) u, rfl, hg, ?_, hnc, hcp, by simpa using hcs, ?_⟩
    · unfold World.setCell
      simp only [Array.getElem?_modify, if_pos, hh, Option.map_some]
      rfl
    · rw [Array.toList_setIfInBounds, List.take_set, htake]
theorem OwnR.placec {α : Type} {K : Nat} {cs : α → List Value} (hK : ∀ x, (cs x).length = K) {w : World} {B : Nat} {e : TypeId} {v : Value} {l : List α} (h : OwnR w B e K cs v l) (i : Nat) (hi : i < l.length) :
    ∃ g cap, v = .slice (some ⟨g, 0, none⟩) l.length cap ∧ B ≤ g ∧ g < w.heap.size ∧ (∀ q u, (cs l[i])[q]? = some u → w.cell? ⟨g, i * K + q, none⟩ = some u) ∧ ∀ j, w.frozen? ⟨g, j, none⟩ = false := by
  obtain ⟨g, o, c, e2, hc, hg, hx⟩ := RowsAt.spot (OwnR.rows hK h) i hi
  rcases h.2 with ⟨rfl, h0⟩ | ⟨g', cap', cur, rfl, hg', hh, _⟩
  · omega
  · cases e2
    refine ⟨_, _, rfl, hg', hg, fun q u hu => ?_, fun j => by simp [World.frozen?, hh]⟩
    have := hx q u hu
    simpa using this

set_option maxHeartbeats 16000000 in
set_option maxRecDepth 100000 in
theorem refTurn25_any (va : Value) (H : List Hd) (n : Int) (on : Bool) (W : World) (ha : RowsAt W 3 csHd va H) (hl : H.length ≤ 1000) :
    Calls Try.prog 30 #[va, .int .i64 n, .bool on] W fun e w' => ∃ v, e = .returned v ∧ OwnR w' W.heap.size 52 3 csHd v (turnH H n on) ∧ Below W.heap.size W w' := by
  obtain ⟨a, c, rfl⟩ := RowsAt.form ha
  have HA := Lib.hid ha
  obtain ⟨i0, hi, hz0, hz1, hz2⟩ := info_parts info_hand
  have l2 : (H.length : Int) ≤ 1000 := by omega
  clear ha
  go_enter Try.func30, Try.ntmps30
  go_wp2_with (at_builtin; refine wpList_append_rows csHd_len (by decide) csHd_one rfl _ _ 29 rfl W.heap.size 52 i0 _ 24 Try.underlying29 hi hz0 hz1 hz2 rfl (.slice (some ⟨W.heap.size, 0, none⟩) 0 0) [] rfl (OwnR.empty W 3 csHd 52 W.heap.size rfl) _ H rfl (RowsAt.kept HA.out ((Below.refl W.heap.size W).alloc (Nat.le_refl _) (.cells #[] 52))) (by unfold maxLen; simp; omega) (by simp; omega) (by simp) ?_; intro v5 w5 h1 h2; have HO5 := Lib.hid (show OwnR w5 W.heap.size 52 3 csHd v5 H from h1); have HB5 := Lib.hid (OwnR.below (OwnR.empty W 3 csHd 52 W.heap.size rfl) ((Below.refl W.heap.size W).alloc (Nat.le_refl _) (.cells #[] 52)) (by simp) h2); clear h1 h2)
  obtain ⟨a5, c5, e⟩ := RowsAt.form (OwnR.rows csHd_len HO5.out)
  subst e
  clear hi hz0 hz1 hz2
  go_loopg [8] H.length (fun kx iv ws => ∃ k : Nat, k ≤ H.length ∧ H.length - k ≤ kx ∧ iv = .int .i64 k ∧ Hid (OwnR ws W.heap.size 52 3 csHd (.slice a5 H.length c5) (turnP H n on k)) ∧ Hid (Below W.heap.size W ws))
  case atStart => exact ⟨0, Nat.zero_le _, Nat.le_refl _, rfl, HO5.out, HB5.out⟩
  case round =>
    clear HO5 HB5
    obtain ⟨k, hk, hkx, rfl, HO, HB⟩ := hrel
    by_cases hlt : k < H.length
    · have hltP : k < (turnP H n on k).length := by rw [turnP_len]; exact hlt
      obtain ⟨g, cc, e, hgB, -, hq, hfz⟩ := OwnR.placec csHd_len HO.out k hltP
      simp only [Value.slice.injEq] at e
      obtain ⟨rfl, -, rfl⟩ := e
      rw [turnP_at H n on k hlt] at hq
      have q0 := hq 0 _ rfl
      have q2 := hq 2 _ rfl
      rw [Nat.add_zero] at q0
      have f2 := hfz (k * 3 + 2)
      have HLT := Lib.hid (And.intro hlt hkx)
      have k0 : (0 : Int) ≤ (k : Int) := by omega
      have k1 : (k : Int) < (H.length : Int) := by omega
      have hnx := turnP_next H n on k hlt
      have hput := OwnR.putc csHd_len HO.out k hltP 2 (by omega) (.bool on) { H[k] with on := on } (by rw [turnP_at H n on k hlt]; rfl)
      have HPUT := Lib.hid hput
      have HBS := Lib.hid (HB.out.setCell (p := ⟨g, k * 3 + 2, none⟩) hgB (.bool on))
      clear hq hfz hltP
      generalize H[k] = t at *
      obtain ⟨ti, tb, tn⟩ := t
      dsimp only at q0 q2 hnx hput HPUT
      by_cases he : ti = n
      · rw [if_pos he] at hnx
        have HNX := Lib.hid hnx
        subst he
        clear hnx hput hlt hkx hk
        go_wp2
        go_roundg (H.length - (k + 1))
        case measure => have := HLT.out; omega
        case rel => exact ⟨k + 1, by have := HLT.out; omega, Nat.le_refl _, by go_num, by rw [HNX.out]; exact HPUT.out, HBS.out⟩
      · rw [if_neg he] at hnx
        have e0 : (ti == n) = false := beq_noI he
        have HNX := Lib.hid hnx
        clear hnx hput he hlt hkx hk
        go_wp2
        go_roundg (H.length - (k + 1))
        case measure => have := HLT.out; omega
        case rel => exact ⟨k + 1, by have := HLT.out; omega, Nat.le_refl _, by go_num, by rw [HNX.out]; exact HO.out, HB.out⟩
    · have hke : k = H.length := by omega
      subst hke
      have ho := HO.out
      rw [turnP_end] at ho
      have HE := Lib.hid ho
      clear ho HO hlt hk hkx
      go_wp2
      go_ret
      exact ⟨_, rfl, HE.out, HB.out⟩

/-- a roster's copy, as a call begins -/
theorem plcE_pos {L : List En} {n : Int} (h : hasE L n = true) : plcE L n = ((befE L n : Nat) : Int) := by unfold plcE; rw [if_pos h]
theorem plcE_neg {L : List En} {n : Int} (h : hasE L n = false) : plcE L n = -1 := by unfold plcE; rw [if_neg (by simp [h])]
set_option maxHeartbeats 8000000 in
set_option maxRecDepth 100000 in
theorem refSet25_any (hv bv : Value) (room : Int) (L : List En) (n : Int) (on : Bool) (w : World) (ha : RowsAt w 3 csHd hv (viewE L)) (hbv : ∃ q i j, bv = .slice q i j) (hok : RsOk L) (hl : L.length ≤ 16) :
    Calls Try.prog 10 #[ruv room hv bv, .int .i64 n, .bool on] w fun e w' => ∃ hv', e = .returned (.tuple #[ruv room hv' bv, .int .i64 (setE L n on).2]) ∧
      RowsAt w' 3 csHd hv' (viewE (setE L n on).1) ∧ FrH w hv L hv' (setE L n on).1 ∧ Below w.heap.size w w' := by
  have hst := RuW.start w room hv bv
  obtain ⟨W2, hW2⟩ : ∃ W2, (w.alloc (.cells #[.int .i64 room, hv, bv] 31)).alloc (.cells #[.int .i64 0, .slice none 0 0, .slice none 0 0] 31) = W2 := ⟨_, rfl⟩
  rw [hW2] at hst
  have HW2 := Lib.hid hW2
  obtain ⟨q2, i2, j2, rfl⟩ := hbv
  obtain ⟨q1, j1, rfl⟩ := RowsAt.form ha
  have hr2 := RowsAt.below ha (Nat.le_refl _) hst.b
  have GF := Lib.hid (refFind25_any _ L n W2 hr2 hok hl)
  have HST := Lib.hid hst
  have HA := Lib.hid fun w' (hb : Below w.heap.size w w') => RowsAt.below ha (Nat.le_refl _) hb
  have c0 := hst.u.cell 0 rfl
  have c1 := hst.u.cell 1 rfl
  have c2 := hst.u.cell 2 rfl
  have z0 := hst.z.cell 0 rfl
  have z1 := hst.z.cell 1 rfl
  have z2 := hst.z.cell 2 rfl
  have f0 := hst.z.free 0 rfl
  have f1 := hst.z.free 1 rfl
  have f2 := hst.z.free 2 rfl
  obtain ⟨W9, e9, y0, y1, y2, hb9, -⟩ := hst.give (.int .i64 room) (.slice q1 (viewE L).length j1) (.slice q2 i2 j2)
  have E9 := Lib.hid e9
  have Y := Lib.hid (And.intro y0 (And.intro y1 y2))
  have HB9 := Lib.hid hb9
  clear e9 y0 y1 y2 hb9 hst hW2
  unfold setE
  cases hh : hasE L n with
  | false =>
    rw [if_neg (by simp)]
    rw [plcE_neg hh] at GF
    clear ha hok hl hh hr2
    go_enter Try.func10, Try.ntmps10
    go_upto_region 1 with fail
    rw [HW2.out]
    go_wp2_with (go_at_call 22; (with_reducible refine GF.out.mono ?_); rintro e w1 ⟨rfl, rfl⟩)
    rw [E9.out]
    exact bodyPost_ret (v := .tuple #[.agg #[.int .i64 room, .slice q1 (viewE L).length j1, .slice q2 i2 j2], .int .i64 7]) (by simp [results, Try.results10, go_sem, Y.out.1, Y.out.2.1, Y.out.2.2]) rfl ⟨_, rfl, HA.out _ HB9.out, .inl ⟨rfl, rfl⟩, HB9.out⟩
  | true =>
    rw [if_pos rfl]
    obtain ⟨hk, hd, he⟩ := hok.at hh
    have hkv : befE L n < (viewE L).length := by rw [viewE_len]; exact hk
    obtain ⟨g, o, cc, e, -, -, p0, p1, p2⟩ := hd_at hr2 _ hkv
    rw [viewE_get] at p0 p1 p2
    simp only [Value.slice.injEq] at e
    obtain ⟨rfl, -, rfl⟩ := e
    have hll : (turnH (viewE L) n on).length = (viewE L).length := turnH_len _ _ _
    have GT := Lib.hid (refTurn25_any _ (viewE L) n on W2 hr2 (by rw [viewE_len]; omega))
    have htv := turnH_view hok hk he on
    rw [hd]
    rw [plcE_pos hh] at GF
    rw [htv] at GT hll
    have k0 : (0 : Int) ≤ ((befE L n : Nat) : Int) := by omega
    have k1 : ((befE L n : Nat) : Int) < ((viewE L).length : Int) := by omega
    have hvl : ((viewE L).length : Int) ≤ 16 := by rw [viewE_len]; omega
    generalize L[befE L n] = x at *
    obtain ⟨id, bi, xo, bu⟩ := x
    dsimp only [En.hd] at p0 p1 p2 GT hll ⊢
    generalize hVP : viewE (L.set (befE L n) ⟨id, bi, on, bu⟩) = H' at *
    have hvg := viewE_len L
    generalize hVE : viewE L = H at *
    generalize befE L n = k at *
    have HLL := Lib.hid hll
    by_cases hon : xo = on
    · subst hon
      rw [if_pos rfl]
      clear ha hok hl hh hr2 hk hd he hkv htv GT hll hvg
      cases xo
      all_goals
        go_enter Try.func10, Try.ntmps10
        go_upto_region 1 with fail
        rw [HW2.out]
        go_wp2_with (go_at_call 22; (with_reducible refine GF.out.mono ?_); rintro e w1 ⟨rfl, rfl⟩)
        rw [E9.out]
        exact bodyPost_ret (v := .tuple #[.agg #[.int .i64 room, .slice (some ⟨g, o, none⟩) H.length j1, .slice q2 i2 j2], .int .i64 12]) (by simp [results, Try.results10, go_sem, Y.out.1, Y.out.2.1, Y.out.2.2]) rfl ⟨_, rfl, by rw [hVE]; exact HA.out _ HB9.out, .inl ⟨rfl, rfl⟩, HB9.out⟩
    · rw [if_neg hon]
      clear ha hok hl hh hr2 hk hd he hkv htv hll hvg c2 z0 z1 z2 f0 f1 f2
      cases xo <;> cases on
      all_goals first
        | exact absurd rfl hon
        | (clear hon
           go_enter Try.func10, Try.ntmps10
           go_upto_region 1 with fail
           rw [HW2.out]
           go_wp2_with (first
             | (go_at_call 22; (with_reducible refine GF.out.mono ?_); rintro e w1 ⟨rfl, rfl⟩)
             | (go_at_call 30; (with_reducible refine GT.out.mono ?_); rintro e w3 ⟨v3, rfl, ho, hb⟩; obtain ⟨a3, i3, e⟩ := RowsAt.form (OwnR.rows csHd_len ho); subst e; have HR3 := Lib.hid (HST.out.kept hb); have HO3 := Lib.hid ho; have c0 := HR3.out.u.cell 0 rfl; have c1 := HR3.out.u.cell 1 rfl; have c2 := HR3.out.u.cell 2 rfl; have g1 := HR3.out.u.free 1 rfl; have z0 := HR3.out.z.cell 0 rfl; have z1 := HR3.out.z.cell 1 rfl; have z2 := HR3.out.z.cell 2 rfl; have f0 := HR3.out.z.free 0 rfl; have f1 := HR3.out.z.free 1 rfl; have f2 := HR3.out.z.free 2 rfl; clear ho hb))
           have hp := HR3.out.put1 (.slice a3 H'.length i3)
           obtain ⟨W9, e9, y0, y1, y2, hb9, ho9⟩ := hp.give (.int .i64 room) (.slice a3 H'.length i3) (.slice q2 i2 j2)
           rw [e9]
           have hq := (((Only.refl (fun k => k = w.heap.size ∨ k = w.heap.size + 1) w3).set ⟨w.heap.size, 1, none⟩ (.slice a3 H'.length i3) (.inl rfl)).trans (ho9.mono fun k h => .inr h))
           exact bodyPost_ret (v := .tuple #[.agg #[.int .i64 room, .slice a3 H'.length i3, .slice q2 i2 j2], .int .i64 0]) (by simp [results, Try.results10, go_sem, y0, y1, y2]) rfl
             ⟨_, rfl, by rw [hVP]; exact HST.out.rows csHd_len HO3.out hq, .inr fun k hk => Nat.le_trans HST.out.b.size (World.ownsRow.lt HO3.out k hk).1, hb9⟩)
end Go.Proofs.Ytlgemfgikdaelaa
