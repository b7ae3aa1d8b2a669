/- Texts of this proof, joined: PlanRefE; PlanA; PlanB; PlanC; IntsAt. -/
import Derived.Test.YtddlgnfghecncaaBun5
import Derived.Test.YtddlgnfghecncaaRows
import Derived.WalkKit
import Derived.ChangeSlices
import Derived.WideShapes
import Derived.Below
/- The walks of the document's answers for layer 7: the way. -/
namespace Go.Proofs.Ytddlgnfghecncaa
open Go.RowKit

def lenOf : Value → Nat
  | .slice _ n _ => n
  | _ => 0
theorem OwnP.len {w : World} {B : Nat} {e : TypeId} {v : Value} {l : List (Int × Int)} (h : OwnP w B e v l) : lenOf v = l.length := by
  rcases h.2 with ⟨rfl, h0⟩ | ⟨g, cap, cur, rfl, _⟩
  · simp [lenOf, h0]
  · rfl
theorem OwnP.not {w : World} {B : Nat} {e : TypeId} {v : Value} {l : List (Int × Int)} (h : OwnP w B e v l) {k : Nat} (hk : k < B) : v.ownBlock ≠ some k := by
  rcases h.2 with ⟨rfl, _⟩ | ⟨g, cap, cur, rfl, hg, _⟩
  · simp [Value.ownBlock]
  · simp [Value.ownBlock]
    omega
theorem hset0 {w : World} {b : Nat} {x y : Value} {t : TypeId} (h : w.heap[b]? = some (.cells #[x, y] t)) (x' : Value) : (w.setCell ⟨b, 0, none⟩ x').heap[b]? = some (.cells #[x', y] t) := by
  unfold World.setCell
  simp only [Array.getElem?_modify, if_pos, h, Option.map_some]
  rfl
theorem hset1 {w : World} {b : Nat} {x y : Value} {t : TypeId} (h : w.heap[b]? = some (.cells #[x, y] t)) (y' : Value) : (w.setCell ⟨b, 1, none⟩ y').heap[b]? = some (.cells #[x, y'] t) := by
  unfold World.setCell
  simp only [Array.getElem?_modify, if_pos, h, Option.map_some]
  rfl
theorem hkeep {w : World} {k j : Nat} {o : Obj} (h : w.heap[k]? = some o) (i : Nat) (u : Value) (hne : k ≠ j) : (w.setCell ⟨j, i, none⟩ u).heap[k]? = some o := by
  rw [Below.heap_setCell w ⟨j, i, none⟩ u k hne]
  exact h
theorem halloc {w : World} {k : Nat} {o : Obj} (h : w.heap[k]? = some o) (p : Obj) : (w.alloc p).heap[k]? = some o := (Below.heap_alloc w p k (lt_of_block h)).trans h
theorem gap_bd {a b : Int × Int} (ha : (-1000 ≤ a.1 ∧ a.1 ≤ 1000) ∧ (-1000 ≤ a.2 ∧ a.2 ≤ 1000)) (hb : (-1000 ≤ b.1 ∧ b.1 ≤ 1000) ∧ (-1000 ≤ b.2 ∧ b.2 ≤ 1000)) : gap a b ≤ 4000 := by unfold gap; omega

set_option maxHeartbeats 8000000 in
set_option maxRecDepth 100000 in
theorem refRoute_any (x1 y1 x2 y2 how : Int) (w : World) :
    Calls Try.prog 17 #[.agg #[.int .i64 x1, .int .i64 y1], .agg #[.int .i64 x2, .int .i64 y2], .int .i64 how] w fun e w' => ∃ v, e = .returned v ∧ PairsAt w' v (rway (wd x1, wd y1) (wd x2, wd y2) how) ∧ Below w.heap.size w w' := by
  obtain ⟨i0, hi, hz0, hz1, hz2⟩ := info_parts info_point
  have hn1 := fun w => refPNear_any x1 y1 w
  have hn2 := fun w => refPNear_any x2 y2 w
  have ha := wd_bd x1
  have hb := wd_bd y1
  have hc := wd_bd x2
  have hd := wd_bd y2
  generalize wd x1 = a1 at *
  generalize wd y1 = a2 at *
  generalize wd x2 = b1 at *
  generalize wd y2 = b2 at *
  have hgap := gap_bd (a := (a1, a2)) (b := (b1, b2)) ⟨ha, hb⟩ ⟨hc, hd⟩
  have hbd := rit_bd (a := (a1, a2)) (b := (b1, b2)) (how := how) (B := 1000) ⟨ha, hb⟩ ⟨hc, hd⟩
  have HN1 := Lib.hid hn1
  have HN2 := Lib.hid hn2
  have HBD := Lib.hid hbd
  have C0 := (Cell2.new w (.int .i64 x1) (.int .i64 y1) 24).alloc (.cells #[.int .i64 x2, .int .i64 y2] 24)
  have C1 := Cell2.new (w.alloc (.cells #[.int .i64 x1, .int .i64 y1] 24)) (.int .i64 x2) (.int .i64 y2) 24
  simp only [World.size_alloc] at C1
  have hB : Below w.heap.size w ((w.alloc (.cells #[.int .i64 x1, .int .i64 y1] 24)).alloc (.cells #[.int .i64 x2, .int .i64 y2] 24)) := ((Below.refl _ _).alloc (Nat.le_refl _) _).alloc (by simp) _
  clear hn1 hn2 hbd
  go_enter Try.func17, Try.ntmps17
  go_wp2
  have hsz0 : ((w.alloc (.cells #[.int .i64 x1, .int .i64 y1] 24)).alloc (.cells #[.int .i64 x2, .int .i64 y2] 24)).heap.size = w.heap.size + 1 + 1 := by simp
  generalize (w.alloc (.cells #[.int .i64 x1, .int .i64 y1] 24)).alloc (.cells #[.int .i64 x2, .int .i64 y2] 24) = w0 at *
  refine wp_region_calmN 4 6 [(.cells #[.int .i64 0, .int .i64 0] 24, fun b => .pointer (some ⟨b, 0, none⟩)), (.cells #[.int .i64 0, .int .i64 0] 24, fun b => .pointer (some ⟨b, 0, none⟩))] (by kernel_rfl) (by simp) (by simp) (by kernel_rfl) fun M => ?_
  simp only [List.take_succ_cons, List.take_zero, List.drop_succ_cons, List.drop_zero, List.length_cons, List.length_nil, List.take_nil]
  have e0 := fun n : In M.w => n.cell (M.cell C0.c0)
  have e1 := fun n : In M.w => n.cell (M.cell C0.c1)
  have e2 := fun n : In M.w => n.cell (M.cell C1.c0)
  have e3 := fun n : In M.w => n.cell (M.cell C1.c1)
  repeat (go_big_quiet_step (first
    | (go_at_call 40; with_reducible exact In.call (HN1.out _))
    | (go_at_call 40; with_reducible exact In.call (HN2.out _))))
  refine wpQuiet_nil ?_
  clear e0 e1 e2 e3 M C0 C1 HN1 HN2
  refine ⟨rfl, fun n => by simp [go_sem], fun u hu _ => ⟨rfl, fun n => by simp [go_sem], fun v hv hvu w2 hw => ?_⟩⟩
  have hne : v ≠ u := fun e => by rw [e, Gh.set_self] at hvu; cases hvu
  have hne' : u ≠ v := Ne.symm hne
  have hbl := hw.below
  have h1 := hw.own u _ (by rw [Gh.set_ne _ (Ne.symm hne)]; exact Gh.set_self _ _ _)
  have h2 := hw.own v _ (Gh.set_self _ _ _)
  have hB2 := hB.trans (hbl.mono (by omega))
  have hu1 : w.heap.size ≤ u := by omega
  have hv1 : w.heap.size ≤ v := by omega
  have hsu : u < w2.heap.size := lt_of_block h1
  have hsv : v < w2.heap.size := lt_of_block h2
  have HU := Lib.hid (hkeep (hkeep (hset1 (hset0 h1 (.int .i64 a1)) (.int .i64 a2)) 0 (.int .i64 b1) hne') 1 (.int .i64 b2) hne')
  have HV := Lib.hid (hset1 (hset0 (hkeep (hkeep h2 0 (.int .i64 a1) hne) 1 (.int .i64 a2) hne) (.int .i64 b1)) (.int .i64 b2))
  have hB3 := Lib.hid ((((hB2.setCell (p := ⟨u, 0, none⟩) hu1 (.int .i64 a1)).setCell (p := ⟨u, 1, none⟩) hu1 (.int .i64 a2)).setCell (p := ⟨v, 0, none⟩) hv1 (.int .i64 b1)).setCell (p := ⟨v, 1, none⟩) hv1 (.int .i64 b2))
  have hs3 : ((((w2.setCell ⟨u, 0, none⟩ (.int .i64 a1)).setCell ⟨u, 1, none⟩ (.int .i64 a2)).setCell ⟨v, 0, none⟩ (.int .i64 b1)).setCell ⟨v, 1, none⟩ (.int .i64 b2)).heap.size = w2.heap.size := by simp
  obtain ⟨d0, d1, z0, z1⟩ := Cell2.of_heap h1
  obtain ⟨f0, f1, y0, y1⟩ := Cell2.of_heap h2
  obtain ⟨g0, g1, _, _⟩ := Cell2.of_heap HU.out
  clear hbl hw hvu h1 h2 hB2 hB hu hv
  go_wp2
  clear d0 d1 z0 z1 f0 f1 y0 y1 g0 g1
  obtain ⟨Bo, hBo⟩ : ∃ Bo, w2.heap.size = Bo := ⟨_, rfl⟩
  generalize ((((w2.setCell ⟨u, 0, none⟩ (.int .i64 a1)).setCell ⟨u, 1, none⟩ (.int .i64 a2)).setCell ⟨v, 0, none⟩ (.int .i64 b1)).setCell ⟨v, 1, none⟩ (.int .i64 b2)) = w3 at *
  rw [hBo] at hs3 hsu hsv ⊢
  clear hBo
  have hb3 : w.heap.size ≤ w3.heap.size := by omega
  go_loopw [9] (fun s wr => ∃ k : Nat, k ≤ gap (a1, a2) (b1, b2) ∧ OwnP wr Bo 24 s ((List.range (k + 1)).map (rit (b1, b2) how (a1, a2))) ∧ Below w.heap.size w wr ∧ Bo ≤ wr.heap.size ∧ wr.heap[u]? = some (.cells #[.int .i64 (rit (b1, b2) how (a1, a2) k).1, .int .i64 (rit (b1, b2) how (a1, a2) k).2] 24) ∧ wr.heap[v]? = some (.cells #[.int .i64 b1, .int .i64 b2] 24)) (fun s _ => gap (a1, a2) (b1, b2) + 1 - lenOf s)
  case atStart => exact ⟨0, Nat.zero_le _, ⟨rfl, .inr ⟨w3.heap.size, 1, #[.int .i64 a1, .int .i64 a2], by simp, by omega, heap_alloc_new w3 _, Nat.le_refl _, by decide, rfl, rfl⟩⟩, hB3.out.alloc hb3 _, by simp; omega, halloc HU.out _, halloc HV.out _⟩
  case round =>
    clear hB3 HU HV hs3 hb3
    obtain ⟨k, hk, hown, hB, hBz, hU, hV⟩ := hrel
    have hbk := HBD.out k
    have hgk := rit_gap (a1, a2) (b1, b2) how k hk
    have hnx : (List.range (k + 1 + 1)).map (rit (b1, b2) how (a1, a2)) = (List.range (k + 1)).map (rit (b1, b2) how (a1, a2)) ++ [rst (b1, b2) how (rit (b1, b2) how (a1, a2) k)] := rway_next (rit (b1, b2) how (a1, a2)) k
    have hrs : rit (b1, b2) how (a1, a2) (k + 1) = rst (b1, b2) how (rit (b1, b2) how (a1, a2) k) := rfl
    by_cases hlt : k < gap (a1, a2) (b1, b2)
    · obtain ⟨⟨x, y⟩, hxy⟩ : ∃ p, rit (b1, b2) how (a1, a2) k = p := ⟨_, rfl⟩
      rw [hxy] at hgk hbk hU hnx hrs
      simp only at hbk hU
      have hneq : ¬ (x = b1 ∧ y = b2) := fun ⟨e1, e2⟩ => by
        subst e1 e2
        have h0 : gap (x, y) (x, y) = 0 := by unfold gap; omega
        omega
      have hbx : -1000000 ≤ x ∧ x ≤ 1000000 := by omega
      have hby : -1000000 ≤ y ∧ y ≤ 1000000 := by omega
      have ht1 := fun w => refToward_any x b1 w hbx
      have ht2 := fun w => refToward_any y b2 w hby
      have hlen := hown.len
      rw [List.length_map, List.length_range] at hlen
      have hnu := hown.not hsu
      have hnv := hown.not hsv
      have hcl : ((List.range (k + 1)).map (rit (b1, b2) how (a1, a2))).length = k + 1 := by simp
      generalize (List.range (k + 1)).map (rit (b1, b2) how (a1, a2)) = L at *
      obtain ⟨L', hL'⟩ : ∃ L', (List.range (k + 1 + 1)).map (rit (b1, b2) how (a1, a2)) = L' := ⟨_, rfl⟩
      rw [hL'] at hnx
      have HL' := Lib.hid hL'
      clear hL'
      obtain ⟨c0, c1, z0, z1⟩ := Cell2.of_heap hU
      obtain ⟨d0, d1, _, _⟩ := Cell2.of_heap hV
      have HRS := Lib.hid hrs
      have HNX := Lib.hid hnx
      have HT1 := Lib.hid ht1
      have HT2 := Lib.hid ht2
      have HO := Lib.hid hown
      have HU := Lib.hid hU
      have HV := Lib.hid hV
      have HNU := Lib.hid hnu
      have HNV := Lib.hid hnv
      clear hgk hxy ht1 ht2 hown hU hV hnu hnv hrs hnx hbx hby hbk
      have hcase : (y = b2 ∧ (x == b1) = false) ∨ ((y == b2) = false ∧ (how == 1) = false ∧ (x == b1) = false) ∨ ((y == b2) = false ∧ how = 1) ∨ ((y == b2) = false ∧ (how == 1) = false ∧ x = b1) := by
        simp only [beq_eq_false_iff_ne]
        by_cases e1 : y = b2 <;> by_cases e2 : how = 1 <;> by_cases e3 : x = b1 <;> simp [e1, e2, e3] at hneq ⊢
      clear hneq
      rcases hcase with ⟨m1, m3⟩ | ⟨m1, m2, m3⟩ | ⟨m1, m2⟩ | ⟨m1, m2, m3⟩
      · subst m1
        have hr : rst (b1, y) how (x, y) = (tw x b1, y) := by unfold rst; rw [if_pos (.inl rfl)]
        obtain ⟨nn, hnn⟩ : ∃ nn, (tw x b1) = nn := ⟨_, rfl⟩
        rw [hnn] at HT1 hr
        rw [hr] at HRS HNX
        have hB4 := hB.setCell (p := ⟨u, 0, none⟩) hu1 (.int .i64 nn)
        have HU4 := Lib.hid (hset0 HU.out (.int .i64 nn))
        have HV4 := Lib.hid (hkeep HV.out 0 (.int .i64 nn) hne)
        have HO4 := Lib.hid ((HO.out.away ⟨u, 0, none⟩ (.int .i64 nn) HNU.out).alloc (.cells #[.int .i64 nn, .int .i64 y] 24))
        have HH4 := Lib.hid (heap_alloc_new (wr.setCell ⟨u, 0, none⟩ (.int .i64 nn)) (.cells #[.int .i64 nn, .int .i64 y] 24))
        have hz4 : (wr.setCell ⟨u, 0, none⟩ (.int .i64 nn)).heap.size = wr.heap.size := by simp
        have hzw : w.heap.size ≤ wr.heap.size := hB.size
        have hB5 := hB4.alloc (o := .cells #[.int .i64 nn, .int .i64 y] 24) (by omega)
        have hz5 : ((wr.setCell ⟨u, 0, none⟩ (.int .i64 nn)).alloc (.cells #[.int .i64 nn, .int .i64 y] 24)).heap.size = wr.heap.size + 1 := by simp
        rw [hz4] at HH4
        clear hr hnn HO
        go_wp2_with (first
          | (go_at_call 41; (with_reducible refine (HT1.out _).mono ?_); rintro e w4 ⟨rfl, rfl⟩)
          | (at_builtin; refine wpList_append_own _ rfl _ _ 34 rfl Bo 24 i0 (.agg #[.int .i64 0, .int .i64 0]) 2 16 Try.underlying34 hi hz0 hz1 hz2 rfl (by decide) _ _ _ rfl HO4.out ⟨wr.heap.size, 0, none⟩ 1 1 [.int .i64 nn, .int .i64 y] rfl rfl (World.news_of_block (cs := #[.int .i64 nn, .int .i64 y]) HH4.out) (by intro u hu; simp at hu; rcases hu with rfl | rfl <;> rfl) (by unfold maxLen; omega) (by omega) (by omega) ?_))
        intro v' w5 h1 h2 _
        have o5 : OwnP w5 Bo 24 v' L' := by
          rw [HNX.out]
          unfold OwnP
          rw [List.length_append, flat_append, hcl]
          exact h1
        have hU5 := (h2.block u (lt_of_block (halloc HU4.out _)) (fun e => HNU.out e.symm)).trans (halloc HU4.out _)
        have hV5 := (h2.block v (lt_of_block (halloc HV4.out _)) (fun e => HNV.out e.symm)).trans (halloc HV4.out _)
        have hB6 : Below w.heap.size w w5 := hB5.grown h2 (by omega) (fun j hj => by
          rcases Nat.lt_or_ge j Bo with h | h
          · exact absurd hj (HO4.out.not h)
          · omega)
        have hz6 : Bo ≤ w5.heap.size := Nat.le_trans (by omega) h2.size
        have hl5 := o5.len
        have HO5 := Lib.hid o5
        have HU5 := Lib.hid hU5
        have HV5 := Lib.hid hV5
        have hlL : L'.length = k + 1 + 1 := by rw [HNX.out, List.length_append, hcl]; rfl
        clear h1 h2 o5 hU5 hV5 HO4 HH4 HU4 HV4
        go_wp2
        go_roundw
        case rel => exact ⟨k + 1, by omega, by rw [HL'.out]; exact HO5.out, hB6, hz6, by rw [HRS.out]; exact HU5.out, HV5.out⟩
        case measure => omega
      · have m2b : (how != 1) = true := by simp [bne, m2]
        have m3b : (x != b1) = true := by simp [bne, m3]
        have hr : rst (b1, b2) how (x, y) = (tw x b1, y) := by unfold rst; rw [if_pos (.inr ⟨by simpa using m2, by simpa using m3⟩)]
        obtain ⟨nn, hnn⟩ : ∃ nn, (tw x b1) = nn := ⟨_, rfl⟩
        rw [hnn] at HT1 hr
        rw [hr] at HRS HNX
        have hB4 := hB.setCell (p := ⟨u, 0, none⟩) hu1 (.int .i64 nn)
        have HU4 := Lib.hid (hset0 HU.out (.int .i64 nn))
        have HV4 := Lib.hid (hkeep HV.out 0 (.int .i64 nn) hne)
        have HO4 := Lib.hid ((HO.out.away ⟨u, 0, none⟩ (.int .i64 nn) HNU.out).alloc (.cells #[.int .i64 nn, .int .i64 y] 24))
        have HH4 := Lib.hid (heap_alloc_new (wr.setCell ⟨u, 0, none⟩ (.int .i64 nn)) (.cells #[.int .i64 nn, .int .i64 y] 24))
        have hz4 : (wr.setCell ⟨u, 0, none⟩ (.int .i64 nn)).heap.size = wr.heap.size := by simp
        have hzw : w.heap.size ≤ wr.heap.size := hB.size
        have hB5 := hB4.alloc (o := .cells #[.int .i64 nn, .int .i64 y] 24) (by omega)
        have hz5 : ((wr.setCell ⟨u, 0, none⟩ (.int .i64 nn)).alloc (.cells #[.int .i64 nn, .int .i64 y] 24)).heap.size = wr.heap.size + 1 := by simp
        rw [hz4] at HH4
        clear hr hnn HO
        go_wp2_with (first
          | (go_at_call 41; (with_reducible refine (HT1.out _).mono ?_); rintro e w4 ⟨rfl, rfl⟩)
          | (at_builtin; refine wpList_append_own _ rfl _ _ 34 rfl Bo 24 i0 (.agg #[.int .i64 0, .int .i64 0]) 2 16 Try.underlying34 hi hz0 hz1 hz2 rfl (by decide) _ _ _ rfl HO4.out ⟨wr.heap.size, 0, none⟩ 1 1 [.int .i64 nn, .int .i64 y] rfl rfl (World.news_of_block (cs := #[.int .i64 nn, .int .i64 y]) HH4.out) (by intro u hu; simp at hu; rcases hu with rfl | rfl <;> rfl) (by unfold maxLen; omega) (by omega) (by omega) ?_))
        intro v' w5 h1 h2 _
        have o5 : OwnP w5 Bo 24 v' L' := by
          rw [HNX.out]
          unfold OwnP
          rw [List.length_append, flat_append, hcl]
          exact h1
        have hU5 := (h2.block u (lt_of_block (halloc HU4.out _)) (fun e => HNU.out e.symm)).trans (halloc HU4.out _)
        have hV5 := (h2.block v (lt_of_block (halloc HV4.out _)) (fun e => HNV.out e.symm)).trans (halloc HV4.out _)
        have hB6 : Below w.heap.size w w5 := hB5.grown h2 (by omega) (fun j hj => by
          rcases Nat.lt_or_ge j Bo with h | h
          · exact absurd hj (HO4.out.not h)
          · omega)
        have hz6 : Bo ≤ w5.heap.size := Nat.le_trans (by omega) h2.size
        have hl5 := o5.len
        have HO5 := Lib.hid o5
        have HU5 := Lib.hid hU5
        have HV5 := Lib.hid hV5
        have hlL : L'.length = k + 1 + 1 := by rw [HNX.out, List.length_append, hcl]; rfl
        clear h1 h2 o5 hU5 hV5 HO4 HH4 HU4 HV4
        go_wp2
        go_roundw
        case rel => exact ⟨k + 1, by omega, by rw [HL'.out]; exact HO5.out, hB6, hz6, by rw [HRS.out]; exact HU5.out, HV5.out⟩
        case measure => omega
      · subst m2
        have hr : rst (b1, b2) 1 (x, y) = (x, tw y b2) := by unfold rst; rw [if_neg (by have := (show y ≠ b2 by simpa using m1); rintro (h | ⟨h, _⟩); exact this h; exact h rfl)]
        obtain ⟨nn, hnn⟩ : ∃ nn, (tw y b2) = nn := ⟨_, rfl⟩
        rw [hnn] at HT2 hr
        rw [hr] at HRS HNX
        have hB4 := hB.setCell (p := ⟨u, 1, none⟩) hu1 (.int .i64 nn)
        have HU4 := Lib.hid (hset1 HU.out (.int .i64 nn))
        have HV4 := Lib.hid (hkeep HV.out 1 (.int .i64 nn) hne)
        have HO4 := Lib.hid ((HO.out.away ⟨u, 1, none⟩ (.int .i64 nn) HNU.out).alloc (.cells #[.int .i64 x, .int .i64 nn] 24))
        have HH4 := Lib.hid (heap_alloc_new (wr.setCell ⟨u, 1, none⟩ (.int .i64 nn)) (.cells #[.int .i64 x, .int .i64 nn] 24))
        have hz4 : (wr.setCell ⟨u, 1, none⟩ (.int .i64 nn)).heap.size = wr.heap.size := by simp
        have hzw : w.heap.size ≤ wr.heap.size := hB.size
        have hB5 := hB4.alloc (o := .cells #[.int .i64 x, .int .i64 nn] 24) (by omega)
        have hz5 : ((wr.setCell ⟨u, 1, none⟩ (.int .i64 nn)).alloc (.cells #[.int .i64 x, .int .i64 nn] 24)).heap.size = wr.heap.size + 1 := by simp
        rw [hz4] at HH4
        clear hr hnn HO
        go_wp2_with (first
          | (go_at_call 41; (with_reducible refine (HT2.out _).mono ?_); rintro e w4 ⟨rfl, rfl⟩)
          | (at_builtin; refine wpList_append_own _ rfl _ _ 34 rfl Bo 24 i0 (.agg #[.int .i64 0, .int .i64 0]) 2 16 Try.underlying34 hi hz0 hz1 hz2 rfl (by decide) _ _ _ rfl HO4.out ⟨wr.heap.size, 0, none⟩ 1 1 [.int .i64 x, .int .i64 nn] rfl rfl (World.news_of_block (cs := #[.int .i64 x, .int .i64 nn]) HH4.out) (by intro u hu; simp at hu; rcases hu with rfl | rfl <;> rfl) (by unfold maxLen; omega) (by omega) (by omega) ?_))
        intro v' w5 h1 h2 _
        have o5 : OwnP w5 Bo 24 v' L' := by
          rw [HNX.out]
          unfold OwnP
          rw [List.length_append, flat_append, hcl]
          exact h1
        have hU5 := (h2.block u (lt_of_block (halloc HU4.out _)) (fun e => HNU.out e.symm)).trans (halloc HU4.out _)
        have hV5 := (h2.block v (lt_of_block (halloc HV4.out _)) (fun e => HNV.out e.symm)).trans (halloc HV4.out _)
        have hB6 : Below w.heap.size w w5 := hB5.grown h2 (by omega) (fun j hj => by
          rcases Nat.lt_or_ge j Bo with h | h
          · exact absurd hj (HO4.out.not h)
          · omega)
        have hz6 : Bo ≤ w5.heap.size := Nat.le_trans (by omega) h2.size
        have hl5 := o5.len
        have HO5 := Lib.hid o5
        have HU5 := Lib.hid hU5
        have HV5 := Lib.hid hV5
        have hlL : L'.length = k + 1 + 1 := by rw [HNX.out, List.length_append, hcl]; rfl
        clear h1 h2 o5 hU5 hV5 HO4 HH4 HU4 HV4
        go_wp2
        go_roundw
        case rel => exact ⟨k + 1, by omega, by rw [HL'.out]; exact HO5.out, hB6, hz6, by rw [HRS.out]; exact HU5.out, HV5.out⟩
        case measure => omega
      · subst m3
        have m2b : (how != 1) = true := by simp [bne, m2]
        have hr : rst (x, b2) how (x, y) = (x, tw y b2) := by unfold rst; rw [if_neg (by have := (show y ≠ b2 by simpa using m1); rintro (h | ⟨_, h⟩); exact this h; exact h rfl)]
        obtain ⟨nn, hnn⟩ : ∃ nn, (tw y b2) = nn := ⟨_, rfl⟩
        rw [hnn] at HT2 hr
        rw [hr] at HRS HNX
        have hB4 := hB.setCell (p := ⟨u, 1, none⟩) hu1 (.int .i64 nn)
        have HU4 := Lib.hid (hset1 HU.out (.int .i64 nn))
        have HV4 := Lib.hid (hkeep HV.out 1 (.int .i64 nn) hne)
        have HO4 := Lib.hid ((HO.out.away ⟨u, 1, none⟩ (.int .i64 nn) HNU.out).alloc (.cells #[.int .i64 x, .int .i64 nn] 24))
        have HH4 := Lib.hid (heap_alloc_new (wr.setCell ⟨u, 1, none⟩ (.int .i64 nn)) (.cells #[.int .i64 x, .int .i64 nn] 24))
        have hz4 : (wr.setCell ⟨u, 1, none⟩ (.int .i64 nn)).heap.size = wr.heap.size := by simp
        have hzw : w.heap.size ≤ wr.heap.size := hB.size
        have hB5 := hB4.alloc (o := .cells #[.int .i64 x, .int .i64 nn] 24) (by omega)
        have hz5 : ((wr.setCell ⟨u, 1, none⟩ (.int .i64 nn)).alloc (.cells #[.int .i64 x, .int .i64 nn] 24)).heap.size = wr.heap.size + 1 := by simp
        rw [hz4] at HH4
        clear hr hnn HO
        go_wp2_with (first
          | (go_at_call 41; (with_reducible refine (HT2.out _).mono ?_); rintro e w4 ⟨rfl, rfl⟩)
          | (at_builtin; refine wpList_append_own _ rfl _ _ 34 rfl Bo 24 i0 (.agg #[.int .i64 0, .int .i64 0]) 2 16 Try.underlying34 hi hz0 hz1 hz2 rfl (by decide) _ _ _ rfl HO4.out ⟨wr.heap.size, 0, none⟩ 1 1 [.int .i64 x, .int .i64 nn] rfl rfl (World.news_of_block (cs := #[.int .i64 x, .int .i64 nn]) HH4.out) (by intro u hu; simp at hu; rcases hu with rfl | rfl <;> rfl) (by unfold maxLen; omega) (by omega) (by omega) ?_))
        intro v' w5 h1 h2 _
        have o5 : OwnP w5 Bo 24 v' L' := by
          rw [HNX.out]
          unfold OwnP
          rw [List.length_append, flat_append, hcl]
          exact h1
        have hU5 := (h2.block u (lt_of_block (halloc HU4.out _)) (fun e => HNU.out e.symm)).trans (halloc HU4.out _)
        have hV5 := (h2.block v (lt_of_block (halloc HV4.out _)) (fun e => HNV.out e.symm)).trans (halloc HV4.out _)
        have hB6 : Below w.heap.size w w5 := hB5.grown h2 (by omega) (fun j hj => by
          rcases Nat.lt_or_ge j Bo with h | h
          · exact absurd hj (HO4.out.not h)
          · omega)
        have hz6 : Bo ≤ w5.heap.size := Nat.le_trans (by omega) h2.size
        have hl5 := o5.len
        have HO5 := Lib.hid o5
        have HU5 := Lib.hid hU5
        have HV5 := Lib.hid hV5
        have hlL : L'.length = k + 1 + 1 := by rw [HNX.out, List.length_append, hcl]; rfl
        clear h1 h2 o5 hU5 hV5 HO4 HH4 HU4 HV4
        go_wp2
        go_roundw
        case rel => exact ⟨k + 1, by omega, by rw [HL'.out]; exact HO5.out, hB6, hz6, by rw [HRS.out]; exact HU5.out, HV5.out⟩
        case measure => omega
    · have hkg : k = gap (a1, a2) (b1, b2) := by omega
      have he := rit_end (a1, a2) (b1, b2) how
      rw [← hkg] at he
      rw [he] at hU
      have hw : rway (a1, a2) (b1, b2) how = (List.range (k + 1)).map (rit (b1, b2) how (a1, a2)) := by rw [hkg]; rfl
      rw [← hw] at hown
      obtain ⟨c0, c1, _, _⟩ := Cell2.of_heap hU
      obtain ⟨d0, d1, _, _⟩ := Cell2.of_heap hV
      have HO := Lib.hid hown
      clear hbk hgk hnx hrs he hw hown hU hV hkg hlt hk
      simp only at c0 c1 d0 d1
      go_wp2
      go_ret
      exact ⟨_, rfl, HO.out.pairs, hB⟩
end Go.Proofs.Ytddlgnfghecncaa
/- The walks of package plan: its small functions. -/
namespace Go.Proofs.Ytddlgnfghecncaa
open Go.RowKit

theorem pnot_any (a b c d : Int) (w : World) : Calls Try.prog 34 #[.agg #[.int .i64 a, .int .i64 b], .agg #[.int .i64 c, .int .i64 d]] w fun e w' => e = .returned (.bool (decide (a ≤ c ∧ b ≤ d))) ∧ Below w.heap.size w w' := by
  have hB : Below w.heap.size w ((w.alloc (.cells #[.int .i64 a, .int .i64 b] 24)).alloc (.cells #[.int .i64 c, .int .i64 d] 24)) := ((Below.refl _ _).alloc (Nat.le_refl _) _).alloc (by simp) _
  by_cases h1 : a ≤ c
  · by_cases h2 : b ≤ d
    · rw [decide_eq_true ⟨h1, h2⟩]
      go_enter Try.func34, Try.ntmps34
      go_wp2
      go_ret
      exact ⟨rfl, hB⟩
    · rw [decide_eq_false fun h => h2 h.2]
      go_enter Try.func34, Try.ntmps34
      go_wp2
      go_ret
      exact ⟨rfl, hB⟩
  · rw [decide_eq_false fun h => h1 h.1]
    go_enter Try.func34, Try.ntmps34
    go_wp2
    go_ret
    exact ⟨rfl, hB⟩

set_option maxHeartbeats 1000000 in
theorem pblock_any (a b c d : Int) (w : World) : Calls Try.prog 29 #[.agg #[.int .i64 a, .int .i64 b], .agg #[.int .i64 c, .int .i64 d]] w fun e w' => e = .returned (av 0 (min a c) (min b d) (max a c) (max b d)) ∧ Below w.heap.size w w' := by
  obtain ⟨m1, h1⟩ : ∃ m, min a c = m := ⟨_, rfl⟩
  obtain ⟨m2, h2⟩ : ∃ m, min b d = m := ⟨_, rfl⟩
  obtain ⟨m3, h3⟩ : ∃ m, max a c = m := ⟨_, rfl⟩
  obtain ⟨m4, h4⟩ : ∃ m, max b d = m := ⟨_, rfl⟩
  rw [h1, h2, h3, h4]
  have hB : Below w.heap.size w (((w.alloc (.cells #[.int .i64 a, .int .i64 b] 24)).alloc (.cells #[.int .i64 c, .int .i64 d] 24)).alloc (.cells #[.int .i64 0, .int .i64 m1, .int .i64 m2, .int .i64 m3, .int .i64 m4] 26)) := (((Below.refl _ _).alloc (Nat.le_refl _) _).alloc (by simp) _).alloc (by simp; omega) _
  go_enter Try.func29, Try.ntmps29
  go_wp2
  refine bodyPost_ret (v := av 0 m1 m2 m3 m4) ?_ rfl ⟨rfl, hB⟩
  simp [results, Try.results29, go_sem]

theorem meet_is (a b : Ais) : meetB a b = decide (max a.lx b.lx ≤ min a.hx b.hx ∧ max a.ly b.ly ≤ min a.hy b.hy) := by
  unfold meetB hasB
  rw [← Bool.decide_and]
  apply decide_eq_decide.2
  omega

set_option maxHeartbeats 1000000 in
set_option maxRecDepth 100000 in
theorem pMeet_any (a b : Ais) (w : World) :
    Calls Try.prog 13 #[av a.id a.lx a.ly a.hx a.hy, av b.id b.lx b.ly b.hx b.hy] w fun e w' => e = .returned (.bool (meetB a b)) ∧ Below w.heap.size w w' := by
  rw [meet_is]
  obtain ⟨i, a1, a2, a3, a4⟩ := a
  obtain ⟨j, b1, b2, b3, b4⟩ := b
  simp only
  obtain ⟨m1, h1⟩ : ∃ m, max a1 b1 = m := ⟨_, rfl⟩
  obtain ⟨m2, h2⟩ : ∃ m, max a2 b2 = m := ⟨_, rfl⟩
  obtain ⟨m3, h3⟩ : ∃ m, min a3 b3 = m := ⟨_, rfl⟩
  obtain ⟨m4, h4⟩ : ∃ m, min a4 b4 = m := ⟨_, rfl⟩
  rw [h1, h2, h3, h4]
  have hn := fun w => pnot_any m1 m2 m3 m4 w
  generalize decide (m1 ≤ m3 ∧ m2 ≤ m4) = t at *
  have HN := Lib.hid hn
  clear hn
  have hB : Below w.heap.size w ((((w.alloc (.cells #[.int .i64 i, .int .i64 a1, .int .i64 a2, .int .i64 a3, .int .i64 a4] 26)).alloc (.cells #[.int .i64 j, .int .i64 b1, .int .i64 b2, .int .i64 b3, .int .i64 b4] 26)).alloc (.cells #[.int .i64 m1, .int .i64 m2] 24)).alloc (.cells #[.int .i64 m3, .int .i64 m4] 24)) := ((((Below.refl _ _).alloc (Nat.le_refl _) _).alloc (by simp) _).alloc (by simp; omega) _).alloc (by simp; omega) _
  go_enter Try.func13, Try.ntmps13
  go_wp2_with (go_at_call 34; with_reducible refine (HN.out _).mono ?_; rintro e w1 ⟨rfl, hb⟩; replace hB := hB.trans (hb.mono hB.size); clear hb)
  go_ret
  exact ⟨rfl, hB⟩

/-- both corners within the floor, in their order -/
def floorB (a : Ais) : Bool := decide (a.lx ≤ a.hx ∧ a.ly ≤ a.hy) && smallB a.lx a.ly 1000 && smallB a.hx a.hy 1000
theorem big_small (x y : Int) : decide (max (sz x) (sz y) ≤ 1000) = smallB x y 1000 := by
  unfold smallB sz fx
  apply decide_eq_decide.2
  omega

set_option maxHeartbeats 1000000 in
set_option maxRecDepth 100000 in
theorem pfloor_any (a : Ais) (w : World) :
    Calls Try.prog 31 #[av a.id a.lx a.ly a.hx a.hy] w fun e w' => e = .returned (.bool (floorB a)) ∧ Below w.heap.size w w' := by
  obtain ⟨i, a1, a2, b1, b2⟩ := a
  have e : floorB ⟨i, a1, a2, b1, b2⟩ = (decide (a1 ≤ b1 ∧ a2 ≤ b2) && smallB a1 a2 1000 && smallB b1 b2 1000) := rfl
  rw [e]
  simp only
  have hn := fun w => pnot_any a1 a2 b1 b2 w
  have h1 := fun w => big_any a1 a2 w
  have h2 := fun w => big_any b1 b2 w
  have e1 := big_small a1 a2
  have e2 := big_small b1 b2
  rw [← e1, ← e2]
  generalize decide (a1 ≤ b1 ∧ a2 ≤ b2) = t at *
  generalize max (sz a1) (sz a2) = m1 at *
  generalize max (sz b1) (sz b2) = m2 at *
  clear e e1 e2
  have HN := Lib.hid hn
  have H1 := Lib.hid h1
  have H2 := Lib.hid h2
  clear hn h1 h2
  have hB : Below w.heap.size w (w.alloc (.cells #[.int .i64 i, .int .i64 a1, .int .i64 a2, .int .i64 b1, .int .i64 b2] 26)) := (Below.refl _ _).alloc (Nat.le_refl _) _
  have k0 : ∀ w1, Below (w.heap.size + 1) (w.alloc (.cells #[.int .i64 i, .int .i64 a1, .int .i64 a2, .int .i64 b1, .int .i64 b2] 26)) w1 →
      w1.cell? ⟨w.heap.size, 1, none⟩ = some (.int .i64 a1) ∧ w1.cell? ⟨w.heap.size, 2, none⟩ = some (.int .i64 a2) ∧ w1.cell? ⟨w.heap.size, 3, none⟩ = some (.int .i64 b1) ∧ w1.cell? ⟨w.heap.size, 4, none⟩ = some (.int .i64 b2) := by
    intro w1 hb
    refine ⟨?_, ?_, ?_, ?_⟩ <;> rw [hb.cell (by simp)] <;> go_simp
  have HK := Lib.hid k0
  clear k0
  have hcase : t = false ∨ (t = true ∧ ¬ m1 ≤ 1000) ∨ (t = true ∧ m1 ≤ 1000 ∧ ¬ m2 ≤ 1000) ∨ (t = true ∧ m1 ≤ 1000 ∧ m2 ≤ 1000) := by
    cases t <;> by_cases h1 : m1 ≤ 1000 <;> by_cases h2 : m2 ≤ 1000 <;> simp [h1, h2]
  rcases hcase with rfl | ⟨rfl, k1⟩ | ⟨rfl, k1, k2⟩ | ⟨rfl, k1, k2⟩
  all_goals
    go_enter Try.func31, Try.ntmps31
    go_wp2_with (first
      | (go_at_call 34; (with_reducible refine (HN.out _).mono ?_); rintro e w1 ⟨rfl, hb⟩; obtain ⟨c1, c2, c3, c4⟩ := HK.out _ (hb.mono (by simp)); replace hB := hB.trans (hb.mono hB.size); have HB1 := Lib.hid (hb.mono (show w.heap.size + 1 ≤ _ by simp)); have hz1 := hb.size; clear hb HN)
      | (go_at_call 51; (with_reducible refine (H1.out _).mono ?_); rintro e w2 ⟨rfl, hb⟩; clear c1 c2 c3 c4; obtain ⟨c1, c2, c3, c4⟩ := HK.out _ (HB1.out.trans (hb.mono (by simp at hz1; omega))); replace hB := hB.trans (hb.mono hB.size); clear hb H1)
      | (go_at_call 51; (with_reducible refine (H2.out _).mono ?_); rintro e w3 ⟨rfl, hb⟩; replace hB := hB.trans (hb.mono hB.size); clear hb H2))
    go_ret
    exact ⟨ret_b (by simp <;> (try intros) <;> omega), hB⟩

/-! ### Points as numbers -/
theorem psatClip_any (n : Int) (w : World) : Calls Try.prog 64 #[.int .i64 n, .int .i64 (-1000), .int .i64 1000] w fun e w' => e = .returned (.int .i64 (wd n)) ∧ w = w' := by
  unfold wd
  by_cases h : n < -1000
  · go_enter Try.func64, Try.ntmps64
    go_wp2
    go_ret
    exact ⟨ret_i (by omega), rfl⟩
  · go_enter Try.func64, Try.ntmps64
    go_wp2
    go_ret
    exact ⟨ret_i (by omega), rfl⟩
theorem pnear_any (n : Int) (w : World) : Calls Try.prog 52 #[.int .i64 n] w fun e w' => e = .returned (.float .f64 (fl (wd n))) ∧ w = w' := by
  have h := fun w => psatClip_any n w
  generalize wd n = m at *
  have H := Lib.hid h
  clear h
  go_enter Try.func52, Try.ntmps52
  go_wp2_with (go_at_call 64; (with_reducible refine (H.out _).mono ?_); rintro e w1 ⟨rfl, rfl⟩)
  go_ret
  exact ⟨rfl, rfl⟩

set_option maxRecDepth 100000 in
theorem pnumber_any (x y : Int) (w : World) : Calls Try.prog 35 #[.agg #[.int .i64 x, .int .i64 y]] w fun e w' => e = .returned (.complex .f64 (fl (wd x)) (fl (wd y))) ∧ Below w.heap.size w w' := by
  have h1 := fun w => pnear_any x w
  have h2 := fun w => pnear_any y w
  generalize fl (wd x) = a at *
  generalize fl (wd y) = b at *
  have H1 := Lib.hid h1
  have H2 := Lib.hid h2
  clear h1 h2
  have C0 := Cell2.new w (.int .i64 x) (.int .i64 y) 24
  have hB : Below w.heap.size w (w.alloc (.cells #[.int .i64 x, .int .i64 y] 24)) := (Below.refl _ _).alloc (Nat.le_refl _) _
  go_enter Try.func35, Try.ntmps35
  go_wp2
  refine wp_region_calmT 6 (by kernel_rfl) (by simp) (by kernel_rfl) fun M => ?_
  simp only [List.take_succ_cons, List.take_zero, List.drop_succ_cons, List.drop_zero]
  have e0 := fun n : In M.w => n.cell (M.cell C0.c0)
  have e1 := fun n : In M.w => n.cell (M.cell C0.c1)
  repeat (go_big_quiet_step (first
    | (go_at_call 52; with_reducible exact In.call_same (H1.out _))
    | (go_at_call 52; with_reducible exact In.call_same (H2.out _))))
  refine wpQuiet_nil ?_
  intro w2 hb
  replace hB := hB.trans (hb.mono hB.size)
  clear hb e0 e1 M C0
  go_wp2
  go_ret
  exact ⟨rfl, hB⟩

theorem ppoint_any (p q : Nat) (x y : Int) (hp : Fl p x) (hq : Fl q y) (hx : x.natAbs < 2 ^ 53) (hy : y.natAbs < 2 ^ 53) (w : World) :
    Calls Try.prog 36 #[.complex .f64 p q] w fun e w' => e = .returned (.agg #[.int .i64 x, .int .i64 y]) ∧ Below w.heap.size w w' := by
  have k1 : ∀ w, (convert 72 3 (.float .f64 p)).run Try.prog w = .ok (.int .i64 x) w := fun w => run_convert_float_int w _ _ _ _ _ _ (by rw [Try.underlying72]; rfl) Try.underlying3 (toInt_whole hp (i64_in' hx).1 (i64_in' hx).2)
  have k2 : ∀ w, (convert 72 3 (.float .f64 q)).run Try.prog w = .ok (.int .i64 y) w := fun w => run_convert_float_int w _ _ _ _ _ _ (by rw [Try.underlying72]; rfl) Try.underlying3 (toInt_whole hq (i64_in' hy).1 (i64_in' hy).2)
  go_enter Try.func36, Try.ntmps36
  go_wp2
  refine bodyPost_ret (v := .agg #[.int .i64 x, .int .i64 y]) ?_ rfl ⟨rfl, (Below.refl _ _).alloc (Nat.le_refl _) _⟩
  simp [results, Try.results36, go_sem]

/-- where a way turns -/
def trn (h : Int) (a b : Int × Int) : Int × Int := if h = 1 then (a.1, b.2) else (b.1, a.2)
theorem pbetween_any (a b c d : Nat) (h : Int) (w : World) : Calls Try.prog 38 #[.complex .f64 a b, .complex .f64 c d, .int .i64 h] w fun e w' => e = .returned (.complex .f64 (if h = 1 then a else c) (if h = 1 then d else b)) ∧ w = w' := by
  by_cases hh : h = 1
  · simp only [if_pos hh]
    subst hh
    go_enter Try.func38, Try.ntmps38
    go_wp2
    go_ret
    exact ⟨rfl, rfl⟩
  · simp only [if_neg hh]
    have hb : (h == 1) = false := by simpa using hh
    go_enter Try.func38, Try.ntmps38
    go_wp2
    go_ret
    exact ⟨rfl, rfl⟩

/-! ### The sign -/
theorem pord_lt {a b : Nat} {x y : Int} (ha : Fl a x) (hb : Fl b y) : (FloatKind.f64.format.order a b == some .lt) = decide (x < y) := by
  rw [order_whole ha hb]
  rcases Int.lt_trichotomy x y with h | h | h
  · rw [show compare x y = .lt from Int.compare_eq_lt.2 h, decide_eq_true h]; rfl
  · rw [show compare x y = .eq from Int.compare_eq_eq.2 h, decide_eq_false (by omega)]; rfl
  · rw [show compare x y = .gt from Int.compare_eq_gt.2 h, decide_eq_false (by omega)]; rfl
theorem pord_gt {a b : Nat} {x y : Int} (ha : Fl a x) (hb : Fl b y) : (FloatKind.f64.format.order a b == some .gt) = decide (y < x) := by
  rw [order_whole ha hb]
  rcases Int.lt_trichotomy x y with h | h | h
  · rw [show compare x y = .lt from Int.compare_eq_lt.2 h, decide_eq_false (by omega)]; rfl
  · rw [show compare x y = .eq from Int.compare_eq_eq.2 h, decide_eq_false (by omega)]; rfl
  · rw [show compare x y = .gt from Int.compare_eq_gt.2 h, decide_eq_true h]; rfl
theorem pisnan_any (p : Nat) (x : Int) (hp : Fl p x) (w : World) : Calls Try.prog 81 #[.float .f64 p] w fun e w' => e = .returned (.bool false) ∧ w = w' := by
  have h := ord_eq hp hp
  rw [decide_eq_true rfl] at h
  have h' : (FloatKind.f64.format.order p p != some .eq) = false := by rw [bne, h]; rfl
  go_enter Try.func81, Try.ntmps81
  go_wp2
  go_ret
  exact ⟨rfl, rfl⟩
def sgn (x : Int) : Int := if x < 0 then -1 else if 0 < x then 1 else 0
theorem pcompare_any (p : Nat) (x : Int) (hp : Fl p x) (w : World) : Calls Try.prog 65 #[.float .f64 p, .float .f64 0] w fun e w' => e = .returned (.int .i64 (sgn x)) ∧ w = w' := by
  have h1 := fun w => pisnan_any p x hp w
  have h2 := fun w => pisnan_any 0 0 zero_whole w
  have H1 := Lib.hid h1
  have H2 := Lib.hid h2
  have a1 := pord_lt hp zero_whole
  have a2 := pord_gt hp zero_whole
  have hc : (x < 0) ∨ (¬ x < 0 ∧ 0 < x) ∨ (¬ x < 0 ∧ ¬ 0 < x) := by omega
  unfold sgn
  clear h1 h2 hp
  rcases hc with h | ⟨h, h'⟩ | ⟨h, h'⟩
  · rw [if_pos h]
    rw [decide_eq_true h] at a1
    clear a2
    go_enter Try.func65, Try.ntmps65
    go_wp2_with (first
      | (go_at_call 81; (with_reducible refine (H1.out _).mono ?_); rintro e w1 ⟨rfl, rfl⟩)
      | (go_at_call 81; (with_reducible refine (H2.out _).mono ?_); rintro e w1 ⟨rfl, rfl⟩))
    go_ret
    exact ⟨rfl, rfl⟩
  · rw [if_neg h, if_pos h']
    rw [decide_eq_false h] at a1
    rw [decide_eq_true h'] at a2
    go_enter Try.func65, Try.ntmps65
    go_wp2_with (first
      | (go_at_call 81; (with_reducible refine (H1.out _).mono ?_); rintro e w1 ⟨rfl, rfl⟩)
      | (go_at_call 81; (with_reducible refine (H2.out _).mono ?_); rintro e w1 ⟨rfl, rfl⟩))
    go_ret
    exact ⟨rfl, rfl⟩
  · rw [if_neg h, if_neg h']
    rw [decide_eq_false h] at a1
    rw [decide_eq_false h'] at a2
    go_enter Try.func65, Try.ntmps65
    go_wp2_with (first
      | (go_at_call 81; (with_reducible refine (H1.out _).mono ?_); rintro e w1 ⟨rfl, rfl⟩)
      | (go_at_call 81; (with_reducible refine (H2.out _).mono ?_); rintro e w1 ⟨rfl, rfl⟩))
    go_ret
    exact ⟨rfl, rfl⟩
theorem psign_any (p : Nat) (x : Int) (hp : Fl p x) (w : World) : Calls Try.prog 53 #[.float .f64 p] w fun e w' => e = .returned (.float .f64 (fl (sgn x))) ∧ w = w' := by
  have h := fun w => pcompare_any p x hp w
  generalize sgn x = s at *
  have H := Lib.hid h
  clear h hp
  go_enter Try.func53, Try.ntmps53
  go_wp2_with (go_at_call 65; (with_reducible refine (H.out _).mono ?_); rintro e w1 ⟨rfl, rfl⟩)
  go_ret
  exact ⟨rfl, rfl⟩
end Go.Proofs.Ytddlgnfghecncaa
/- The walks of package plan: which aisle has a point, each two of a list. -/
namespace Go.Proofs.Ytddlgnfghecncaa
open Go.RowKit

theorem meet_pt (a : Ais) (x y : Int) : meetB a ⟨0, min x x, min y y, max x x, max y y⟩ = hasB a x y := by
  rw [meet_is]
  unfold hasB
  apply decide_eq_decide.2
  simp only
  omega

/-- a block of five cells -/
structure Cell5 (w : World) (b : Nat) (a : Ais) : Prop where
  c0 : w.cell? ⟨b, 0, none⟩ = some (.int .i64 a.id)
  c1 : w.cell? ⟨b, 1, none⟩ = some (.int .i64 a.lx)
  c2 : w.cell? ⟨b, 2, none⟩ = some (.int .i64 a.ly)
  c3 : w.cell? ⟨b, 3, none⟩ = some (.int .i64 a.hx)
  c4 : w.cell? ⟨b, 4, none⟩ = some (.int .i64 a.hy)
theorem Cell5.new (w : World) (a : Ais) (t : TypeId) : Cell5 (w.alloc (.cells #[.int .i64 a.id, .int .i64 a.lx, .int .i64 a.ly, .int .i64 a.hx, .int .i64 a.hy] t)) w.heap.size a :=
  ⟨by go_simp, by go_simp, by go_simp, by go_simp, by go_simp⟩
theorem Cell5.below {w w1 : World} {b B : Nat} {a : Ais} (h : Cell5 w b a) (hb : Below B w w1) (hB : b < B) : Cell5 w1 b a :=
  ⟨by rw [hb.cell hB]; exact h.c0, by rw [hb.cell hB]; exact h.c1, by rw [hb.cell hB]; exact h.c2, by rw [hb.cell hB]; exact h.c3, by rw [hb.cell hB]; exact h.c4⟩
theorem Cell5.kept {w w1 : World} {b : Nat} {a : Ais} (h : Cell5 w b a) (hb : Below w.heap.size w w1) : Cell5 w1 b a :=
  h.below hb (World.block_lt_of_cell? w _ h.c0)
theorem Cell5.alloc {w : World} {b : Nat} {a : Ais} (h : Cell5 w b a) (o : Obj) : Cell5 (w.alloc o) b a :=
  h.kept ((Below.refl _ _).alloc (Nat.le_refl _) _)

set_option maxHeartbeats 2000000 in
set_option maxRecDepth 100000 in
theorem pAt_any (va : Value) (l : List Ais) (x y : Int) (w : World) (ha : AisAt w va l) (hl : l.length ≤ 1000000) :
    Calls Try.prog 9 #[va, .agg #[.int .i64 x, .int .i64 y]] w fun e w' => e = .returned (.tuple #[.int .i64 (atL l x y).1, .bool (atL l x y).2]) ∧ Below w.heap.size w w' := by
  have HA := Lib.hid ha
  obtain ⟨a, c, rfl⟩ := RowsAt.form ha
  clear ha
  have hB : Below w.heap.size w (w.alloc (.cells #[.int .i64 x, .int .i64 y] 24)) := (Below.refl _ _).alloc (Nat.le_refl _) _
  have C0 := Cell2.new w (.int .i64 x) (.int .i64 y) 24
  have hbl := fun w => pblock_any x y x y w
  obtain ⟨m1, h1⟩ : ∃ m, min x x = m := ⟨_, rfl⟩
  obtain ⟨m2, h2⟩ : ∃ m, min y y = m := ⟨_, rfl⟩
  obtain ⟨m3, h3⟩ : ∃ m, max x x = m := ⟨_, rfl⟩
  obtain ⟨m4, h4⟩ : ∃ m, max y y = m := ⟨_, rfl⟩
  have hpt := fun a => meet_pt a x y
  rw [h1, h2, h3, h4] at hbl
  simp only [h1, h2, h3, h4] at hpt
  have HBL := Lib.hid hbl
  have HPT := Lib.hid hpt
  clear hbl hpt h1 h2 h3 h4
  go_enter Try.func9, Try.ntmps9
  go_wp2
  go_loopw [7, 10] (fun _ i wr => ∃ k : Nat, k ≤ l.length ∧ i = .int .i64 k ∧ Below w.heap.size w wr ∧ Cell2 wr w.heap.size (.int .i64 x) (.int .i64 y) ∧ ∀ i (hi : i < l.length), i < k → hasB l[i] x y = false) (fun _ i _ => l.length - (intOf i).toNat)
  case atStart => exact ⟨0, Nat.zero_le _, rfl, hB, C0, fun i _ hi => absurd hi (by omega)⟩
  case round =>
    clear hB C0
    obtain ⟨k, hk, rfl, hB, C0, hn⟩ := hrel
    have HN := Lib.hid hn
    clear hn
    by_cases hlt : k < l.length
    · have HAR := Lib.hid (HA.out.kept hB)
      obtain ⟨g, o, c', i, a1, a2, b1, b2, hlk, ev, hc, hg, p0, p1, p2, p3, p4⟩ := AisAt.spot HAR.out k hlt
      cases ev
      have hh := fun w => pMeet_any ⟨i, a1, a2, b1, b2⟩ ⟨0, m1, m2, m3, m4⟩ w
      have hpt := HPT.out ⟨i, a1, a2, b1, b2⟩
      obtain ⟨t, ht⟩ : ∃ t, hasB l[k] x y = t := ⟨_, rfl⟩
      have hhit : t = true → atL l x y = (i, true) := fun h => by
        have := atL_hit k hlt (ht.trans h) HN.out
        rw [this, hlk]
      have ht2 := ht
      rw [hlk] at ht2
      rw [hpt, ht2] at hh
      simp only at hh
      clear ht2
      have HH := Lib.hid hh
      have HT := Lib.hid ht
      have HHIT := Lib.hid hhit
      have hB1 := hB.alloc hB.size (.cells #[.int .i64 i, .int .i64 a1, .int .i64 a2, .int .i64 b1, .int .i64 b2] 26)
      have C1 := C0.alloc (.cells #[.int .i64 i, .int .i64 a1, .int .i64 a2, .int .i64 b1, .int .i64 b2] 26)
      have D := Cell5.new wr ⟨i, a1, a2, b1, b2⟩ 26
      obtain ⟨d0, d1, d2, d3, d4⟩ := D
      simp only at d0 d1 d2 d3 d4
      have D := Cell5.new wr ⟨i, a1, a2, b1, b2⟩ 26
      clear hh ht hhit hlk hpt
      have j0 : (0 : Int) ≤ (k : Int) := by omega
      have j1 : (k : Int) < (l.length : Int) := by omega
      go_wp2
      refine wp_region_calm0 (by kernel_rfl) (by kernel_rfl) fun M => ?_
      have e0 := fun n : In M.w => n.cell (M.cell C1.c0)
      have e1 := fun n : In M.w => n.cell (M.cell C1.c1)
      have q0 := fun n : In M.w => n.cell (M.cell d0)
      have q1 := fun n : In M.w => n.cell (M.cell d1)
      have q2 := fun n : In M.w => n.cell (M.cell d2)
      have q3 := fun n : In M.w => n.cell (M.cell d3)
      have q4 := fun n : In M.w => n.cell (M.cell d4)
      repeat (go_big_quiet_step (first
        | (go_at_call 29; with_reducible exact In.call (HBL.out _))
        | (go_at_call 13; with_reducible exact In.call (HH.out _))))
      refine wpQuiet_nil ?_
      intro w1 hb
      have d0' := (hb.cell (World.block_lt_of_cell? _ _ d0)).trans d0
      have hB2 := hB1.trans (hb.mono hB1.size)
      have C2 := Lib.hid (C1.kept hb)
      clear e0 e1 q0 q1 q2 q3 q4 M hb p0 p1 p2 p3 p4 d0 d1 d2 d3 d4 hB hB1 C0 C1 HAR HH
      cases t with
      | true =>
        go_wp2
        refine bodyPost_ret (v := .tuple #[.int .i64 i, .bool true]) (by simp [results, Try.results9, go_sem]) rfl ⟨?_, hB2⟩
        have hat := HHIT.out (by simp)
        rw [hat]
      | false =>
        go_wp2
        go_roundw
        case rel =>
          refine ⟨k + 1, by omega, by go_num, hB2, C2.out, fun j hj hjk => ?_⟩
          by_cases e : j = k
          · subst e
            exact HT.out
          · exact HN.out j hj (by omega)
        case measure => simp [intOf]; omega
    · have hk2 : k = l.length := by omega
      have hat := Lib.hid (atL_none fun i hi => HN.out i hi (by omega))
      rw [hk2]
      clear hk hk2 hlt
      go_wp2
      refine bodyPost_ret (v := .tuple #[.int .i64 0, .bool false]) (by simp [results, Try.results9, go_sem]) rfl ⟨?_, hB⟩
      rw [hat.out]
end Go.Proofs.Ytddlgnfghecncaa
/- The walks of package plan: whether aisles are a plan. -/
namespace Go.Proofs.Ytddlgnfghecncaa
open Go.RowKit

open Classical in
noncomputable def eachB (l : List Ais) : Bool := decide (∀ p q, p < q → q < l.length → meetB (pa l p) (pa l q) = false)
open Classical in
theorem eachB_yes {l : List Ais} (h : ∀ p q, p < q → q < l.length → meetB (pa l p) (pa l q) = false) : eachB l = true := decide_eq_true h
open Classical in
theorem eachB_no {l : List Ais} {p q : Nat} (h1 : p < q) (h2 : q < l.length) (h : meetB (pa l p) (pa l q) = true) : eachB l = false := decide_eq_false fun hh => by
  rw [hh p q h1 h2] at h
  cases h
theorem frame_of' {A : Act} {F : (Nat → Value) → Act} (h : A = F (fun i => A.tmps.getD i undef)) : ∃ f, A = F f := ⟨_, h⟩

set_option maxRecDepth 100000 in
theorem pso_any (a b : Ais) (w : World) :
    Calls Try.prog 33 #[av a.id a.lx a.ly a.hx a.hy, av b.id b.lx b.ly b.hx b.hy] w fun e w' => e = .returned (.bool (!meetB a b)) ∧ Below w.heap.size w w' := by
  have h := fun w => pMeet_any a b w
  obtain ⟨i, a1, a2, a3, a4⟩ := a
  obtain ⟨j, b1, b2, b3, b4⟩ := b
  generalize meetB ⟨i, a1, a2, a3, a4⟩ ⟨j, b1, b2, b3, b4⟩ = t at *
  simp only at h ⊢
  have H := Lib.hid h
  clear h
  have hB : Below w.heap.size w ((w.alloc (.cells #[.int .i64 i, .int .i64 a1, .int .i64 a2, .int .i64 a3, .int .i64 a4] 26)).alloc (.cells #[.int .i64 j, .int .i64 b1, .int .i64 b2, .int .i64 b3, .int .i64 b4] 26)) := ((Below.refl _ _).alloc (Nat.le_refl _) _).alloc (by simp) _
  go_enter Try.func33, Try.ntmps33
  go_wp2_with (go_at_call 13; (with_reducible refine (H.out _).mono ?_); rintro e w1 ⟨rfl, hb⟩; replace hB := hB.trans (hb.mono hB.size); clear hb)
  go_ret
  exact ⟨rfl, hB⟩

theorem sq_le (L : Nat) (i : Nat) (h : i < L) : (L - (i + 1)) * (L + 2) + (L + 2) ≤ (L - i) * (L + 2) := by
  have : L - i = (L - (i + 1)) + 1 := by omega
  rw [this, Nat.add_mul]
  omega

set_option maxHeartbeats 2000000 in
set_option maxRecDepth 100000 in
theorem ptwo_any (va : Value) (l : List Ais) (w : World) (ha : AisAt w va l) (hl : l.length ≤ 32) :
    Calls Try.prog 32 #[va, .func (.func 33) #[] #[]] w fun e w' => e = .returned (.bool (eachB l)) ∧ Below w.heap.size w w' := by
  have HA := Lib.hid ha
  obtain ⟨a, c, rfl⟩ := RowsAt.form ha
  clear ha
  go_enter Try.func32, Try.ntmps32
  go_wp2
  refine wp_scope_goto 0 (fun n a' w' => ∃ (i j : Nat) (y z : Int), y = i ∧ z = j ∧ n = (l.length - i) * (l.length + 2) + (l.length + 2 - j) ∧ i < j ∧ (j ≤ l.length ∨ (i = 0 ∧ j = 1)) ∧ Below w.heap.size w w' ∧ (∀ p q, p < q → q < l.length → (p < i ∨ (p = i ∧ q < j)) → meetB (pa l p) (pa l q) = false) ∧ ∃ f : Nat → Value, a' = { tmps := #[.slice a l.length c, .func (.func 33) #[] #[], f 2, f 3, f 4, .int .i64 y, .int .i64 z, f 7, f 8, f 9, f 10, f 11, f 12, f 13, f 14, f 15, f 16, f 17, f 18, f 19, f 20, f 21, f 22, f 23, f 24, f 25, f 26, f 27, f 28, f 29, f 30, f 31], defers := [] }) rfl rfl ?_ ?_
  · rintro n a' w' ⟨i, j, y, z, rfl, rfl, rfl, hij, hj, hB, hgood, f, rfl⟩ K hK
    have HG := Lib.hid hgood
    clear hgood
    have j0 : (0 : Int) ≤ (i : Int) := by omega
    have j1 : (0 : Int) ≤ (j : Int) := by omega
    by_cases hlt : j < l.length
    · have HAR := Lib.hid (HA.out.kept hB)
      obtain ⟨g, o, c', i0, a1, a2, b1, b2, hlk, ev, hc, hg, p0, p1, p2, p3, p4⟩ := AisAt.at HAR.out i (by omega)
      cases ev
      obtain ⟨g', o', c', i1, c1, c2, d1, d2, hlk', ev, hc', hg', q0, q1, q2, q3, q4⟩ := AisAt.at HAR.out j hlt
      cases ev
      have hso := fun w => pso_any (pa l i) (pa l j) w
      obtain ⟨t, ht⟩ : ∃ t, meetB (pa l i) (pa l j) = t := ⟨_, rfl⟩
      rw [ht, hlk, hlk'] at hso
      simp only at hso
      have HSO := Lib.hid hso
      have HT := Lib.hid ht
      have j2 : (i : Int) < (l.length : Int) := by omega
      have j3 : (j : Int) < (l.length : Int) := by omega
      clear hso ht hlk hlk'
      go_wp2
      refine wp_region_calm0 (by kernel_rfl) (by kernel_rfl) fun M => ?_
      have e0 := fun n : In M.w => n.cell (M.cell p0)
      have e1 := fun n : In M.w => n.cell (M.cell p1)
      have e2 := fun n : In M.w => n.cell (M.cell p2)
      have e3 := fun n : In M.w => n.cell (M.cell p3)
      have e4 := fun n : In M.w => n.cell (M.cell p4)
      have r0 := fun n : In M.w => n.cell (M.cell q0)
      have r1 := fun n : In M.w => n.cell (M.cell q1)
      have r2 := fun n : In M.w => n.cell (M.cell q2)
      have r3 := fun n : In M.w => n.cell (M.cell q3)
      have r4 := fun n : In M.w => n.cell (M.cell q4)
      repeat (go_big_quiet_step ((go_at_call 33; with_reducible exact In.call (HSO.out _))))
      refine wpQuiet_nil ?_
      intro w1 hb
      replace hB := hB.trans (hb.mono hB.size)
      clear e0 e1 e2 e3 e4 r0 r1 r2 r3 r4 M hb p0 p1 p2 p3 p4 q0 q1 q2 q3 q4 HAR HSO
      cases t with
      | true =>
        go_wp2
        simp only [Exit.jump]
        go_ret
        exact ⟨ret_b (eachB_no hij hlt HT.out).symm, hB⟩
      | false =>
        go_wp2
        go_step3
        refine ⟨rfl, hK _ _ _ ?_ ⟨i, j + 1, _, _, rfl, by go_num, rfl, by omega, .inl (by omega), hB, ?_, frame_of' rfl⟩⟩
        · omega
        · intro p q hpq hq hh
          by_cases e : p = i ∧ q = j
          · obtain ⟨rfl, rfl⟩ := e
            exact HT.out
          · exact HG.out p q hpq hq (by omega)
    · by_cases h2 : i + 2 < l.length
      · have j2 : (i : Int) + 1 + 1 < (l.length : Int) := by omega
        have hs := sq_le l.length i (by omega)
        go_wp2
        go_step3
        refine ⟨rfl, hK _ _ _ ?_ ⟨i + 1, i + 2, _, _, by go_num, by go_num, rfl, by omega, .inl (by omega), hB, ?_, frame_of' rfl⟩⟩
        · omega
        · intro p q hpq hq hh
          exact HG.out p q hpq hq (by omega)
      · have j2 : ¬ (i : Int) + 1 + 1 < (l.length : Int) := by omega
        go_wp2
        simp only [Exit.jump]
        go_ret
        exact ⟨ret_b (eachB_yes fun p q hpq hq => HG.out p q hpq hq (by omega)).symm, hB⟩
  · intro K hpass
    go_wp2
    go_step3
    rename_i hback
    exact hback _ _ (hpass _ _ _ ⟨0, 1, _, _, rfl, rfl, rfl, by omega, .inr ⟨rfl, rfl⟩, Below.refl _ _, fun p q h1 h2 h3 => by omega, frame_of' rfl⟩)

/-- the ID ahead of the k-th -/
def pid (l : List Ais) (k : Nat) : Int := if k = 0 then 0 else (pa l (k - 1)).id
def stepB (l : List Ais) (k : Nat) : Bool := decide (pid l k < (pa l k).id ∧ (pa l k).id ≤ 999) && floorB (pa l k)
theorem pid_succ (l : List Ais) (k : Nat) : pid l (k + 1) = (pa l k).id := by unfold pid; rw [if_neg (by omega)]; rfl
theorem floor_iff (a : Ais) : floorB a = true ↔ valA a ∧ smallA a 1000 = true := by
  unfold floorB smallB valA
  rw [small_iff]
  simp only [Bool.and_eq_true, decide_eq_true_eq]
  omega
theorem right_of {l : List Ais} (h1 : l.length ≤ 32) (h2 : ∀ k, k < l.length → stepB l k = true) (h3 : eachB l = true) : rightP l = true := by
  rw [rightP_iff]
  refine ⟨h1, fun k hk => ?_⟩
  have hs : ∀ k, k < l.length → pid l k < (pa l k).id ∧ (pa l k).id ≤ 999 ∧ valA (pa l k) ∧ smallA (pa l k) 1000 = true := by
    intro k hk
    have := h2 k hk
    unfold stepB at this
    rw [Bool.and_eq_true, floor_iff, decide_eq_true_eq] at this
    exact ⟨this.1.1, this.1.2, this.2.1, this.2.2⟩
  have hp : ∀ k, k < l.length → 1 ≤ (pa l k).id := by
    intro k
    induction k with
    | zero => intro hk; have := (hs 0 hk).1; unfold pid at this; rw [if_pos rfl] at this; omega
    | succ k ih => intro hk; have := (hs _ hk).1; rw [pid_succ] at this; have := ih (by omega); omega
  have he : ∀ p q, p < q → q < l.length → meetB (pa l p) (pa l q) = false := by
    intro p q hpq hq
    cases hm : meetB (pa l p) (pa l q) with
    | false => rfl
    | true => rw [eachB_no hpq hq hm] at h3; cases h3
  obtain ⟨g1, g2, g3, g4⟩ := hs k hk
  exact ⟨hp k hk, g2, fun h0 => by unfold pid at g1; rw [if_neg (by omega)] at g1; exact g1, g4, g3, fun p hpk => he p k hpk hk⟩
theorem right_step {l : List Ais} {k : Nat} (hk : k < l.length) (h : stepB l k = false) : rightP l = false := by
  apply rightP_no
  intro hr
  have o := hr.2 k hk
  have : stepB l k = true := by
    unfold stepB
    rw [Bool.and_eq_true, floor_iff, decide_eq_true_eq]
    refine ⟨⟨?_, o.id2⟩, o.val, o.sm⟩
    unfold pid
    have h1 := o.id1
    split
    · omega
    · exact o.up (by omega)
  rw [this] at h
  cases h
theorem right_each {l : List Ais} (h : eachB l = false) : rightP l = false := by
  apply rightP_no
  intro hr
  rw [eachB_yes fun p q hpq hq => (hr.2 q hq).apart p hpq] at h
  cases h
theorem right_long {l : List Ais} (h : ¬ l.length ≤ 32) : rightP l = false := rightP_no fun hr => h hr.1

set_option maxHeartbeats 4000000 in
set_option maxRecDepth 100000 in
theorem pRight_any (va : Value) (l : List Ais) (w : World) (ha : AisAt w va l) (hl : l.length ≤ 9223372036854775807) :
    Calls Try.prog 11 #[va] w fun e w' => e = .returned (.bool (rightP l)) ∧ Below w.heap.size w w' := by
  have HA := Lib.hid ha
  obtain ⟨a, c, rfl⟩ := RowsAt.form ha
  clear ha
  by_cases h32 : l.length ≤ 32
  · go_enter Try.func11, Try.ntmps11
    go_wp2
    go_loopw [3, 5, 11] (fun s _ i wr => ∃ k : Nat, k ≤ l.length ∧ i = .int .i64 k ∧ s = .int .i64 (pid l k) ∧ Below w.heap.size w wr ∧ ∀ i, i < k → stepB l i = true) (fun _ _ i _ => l.length - (intOf i).toNat)
    case atStart => exact ⟨0, Nat.zero_le _, rfl, rfl, Below.refl _ _, fun i hi => absurd hi (by omega)⟩
    case round =>
      obtain ⟨k, hk, rfl, rfl, hB, hn⟩ := hrel
      have HN := Lib.hid hn
      clear hn
      by_cases hlt : k < l.length
      · have HAR := Lib.hid (HA.out.kept hB)
        obtain ⟨g, o, c', i, a1, a2, b1, b2, hlk, ev, hc, hg, p0, p1, p2, p3, p4⟩ := AisAt.at HAR.out k hlt
        cases ev
        have hf := fun w => pfloor_any (pa l k) w
        have hno := right_step (l := l) hlt
        have hsu := pid_succ l k
        have hst : stepB l k = (decide (pid l k < (pa l k).id ∧ (pa l k).id ≤ 999) && floorB (pa l k)) := rfl
        obtain ⟨t, ht⟩ : ∃ t, floorB (pa l k) = t := ⟨_, rfl⟩
        rw [ht] at hst hf
        rw [hlk] at hst hf hsu
        simp only at hst hf hsu
        obtain ⟨z, hz⟩ : ∃ z, pid l k = z := ⟨_, rfl⟩
        rw [hz] at hst ⊢
        have HF := Lib.hid hf
        have HNO := Lib.hid hno
        have HSU := Lib.hid hsu
        have HST := Lib.hid hst
        have hB1 := hB.alloc hB.size (.cells #[.int .i64 i, .int .i64 a1, .int .i64 a2, .int .i64 b1, .int .i64 b2] 26)
        have D := Lib.hid (Cell5.new wr ⟨i, a1, a2, b1, b2⟩ 26)
        have j0 : (0 : Int) ≤ (k : Int) := by omega
        have j1 : (k : Int) < (l.length : Int) := by omega
        clear hf hno hsu hst ht hlk hz
        have hcase : (i ≤ z) ∨ (¬ i ≤ z ∧ 999 < i) ∨ (¬ i ≤ z ∧ ¬ 999 < i ∧ t = false) ∨ (¬ i ≤ z ∧ ¬ 999 < i ∧ t = true) := by
          cases t <;> simp <;> omega
        rcases hcase with h1 | ⟨h1, h2⟩ | ⟨h1, h2, rfl⟩ | ⟨h1, h2, rfl⟩
        · have hs0 : stepB l k = false := by rw [HST.out, decide_eq_false (by omega)]; rfl
          have HS0 := Lib.hid hs0
          clear hs0
          go_wp2
          go_ret
          exact ⟨ret_b (HNO.out HS0.out).symm, hB1⟩
        · have hs0 : stepB l k = false := by rw [HST.out, decide_eq_false (by omega)]; rfl
          have HS0 := Lib.hid hs0
          clear hs0
          go_wp2
          go_ret
          exact ⟨ret_b (HNO.out HS0.out).symm, hB1⟩
        · have hs0 : stepB l k = false := by rw [HST.out, Bool.and_false]
          have HS0 := Lib.hid hs0
          clear hs0
          go_wp2_with (go_at_call 31; (with_reducible refine (HF.out _).mono ?_); rintro e w1 ⟨rfl, hb⟩; have hB2 := hB1.trans (hb.mono hB1.size); clear hb)
          go_ret
          exact ⟨ret_b (HNO.out HS0.out).symm, hB2⟩
        · have hs0 : stepB l k = true := by rw [HST.out, decide_eq_true (by omega)]; rfl
          have HS0 := Lib.hid hs0
          clear hs0
          go_wp2_with (go_at_call 31; (with_reducible refine (HF.out _).mono ?_); rintro e w1 ⟨rfl, hb⟩; have hB2 := hB1.trans (hb.mono hB1.size); obtain ⟨d0, d1, d2, d3, d4⟩ := D.out.kept hb; simp only at d0 d1 d2 d3 d4; clear hb)
          go_roundw
          case rel =>
            refine ⟨k + 1, by omega, by go_num, by rw [HSU.out], hB2, fun j hj => ?_⟩
            by_cases e : j = k
            · subst e
              exact HS0.out
            · exact HN.out j (by omega)
          case measure => simp [intOf]; omega
      · have hk2 : k = l.length := by omega
        have hst : ∀ i, i < l.length → stepB l i = true := fun i hi => HN.out i (by omega)
        have htw := fun w ha => ptwo_any (.slice a l.length c) l w ha h32
        have hres : eachB l = rightP l := by
          cases he : eachB l with
          | true => exact (right_of h32 hst he).symm
          | false => exact (right_each he).symm
        rw [hres] at htw
        have HTW := Lib.hid htw
        rw [hk2]
        clear hk hk2 hlt hst htw hres
        go_wp2_with (go_at_call 32; (with_reducible refine (HTW.out _ (HA.out.kept hB)).mono ?_); rintro e w1 ⟨rfl, hb⟩; replace hB := hB.trans (hb.mono hB.size); clear hb)
        go_ret
        exact ⟨rfl, hB⟩
  · have hr := right_long h32
    have HR := Lib.hid hr
    clear hr
    have h33 : (32 : Int) < (l.length : Int) := by omega
    go_enter Try.func11, Try.ntmps11
    go_wp2
    go_ret
    exact ⟨ret_b HR.out.symm, Below.refl _ _⟩
end Go.Proofs.Ytddlgnfghecncaa
/- Lists of numbers in memory. -/
namespace Go.Proofs.Ytddlgnfghecncaa
open Go.RowKit

/-- A slice that reads as these numbers. -/
def IntsAt (w : World) (v : Value) (l : List Int) : Prop :=
  ∃ a cap, v = .slice a l.length cap ∧ l.length ≤ cap ∧ (0 < l.length → ∃ g o, a = some ⟨g, o, none⟩ ∧ g < w.heap.size ∧ ∀ j x, l[j]? = some x → w.cell? ⟨g, o + j, none⟩ = some (.int .i64 x))

theorem IntsAt.nil (w : World) : IntsAt w (.slice none 0 0) [] := ⟨none, 0, rfl, Nat.le_refl _, fun h => absurd h (by simp)⟩

theorem IntsAt.below {w w' : World} {v : Value} {l : List Int} (h : IntsAt w v l) (hb : Below w.heap.size w w') : IntsAt w' v l := by
  obtain ⟨a, cap, e, hc, h⟩ := h
  refine ⟨a, cap, e, hc, fun h0 => ?_⟩
  obtain ⟨g, o, e1, hg, hx⟩ := h h0
  exact ⟨g, o, e1, Nat.lt_of_lt_of_le hg hb.size, fun j x hj => (hb.cell (p := ⟨g, o + j, none⟩) hg).trans (hx j x hj)⟩

theorem IntsAt.lit (w : World) (l : List Int) (t : TypeId) : IntsAt (w.alloc (.cells (l.map (Value.int .i64)).toArray t)) (.slice (some ⟨w.heap.size, 0, none⟩) l.length l.length) l := by
  refine ⟨_, _, rfl, Nat.le_refl _, fun _ => ⟨w.heap.size, 0, rfl, by simp, fun j x hj => ?_⟩⟩
  rw [Nat.zero_add, World.cell?_alloc_at _ _ _ _ rfl]
  simp [hj]

theorem cells_int : Try.prog.cellsOf 3 = 1 := by kernel_rfl

set_option maxRecDepth 100000 in
theorem open_ints {H : Type} {enc : TypeId × Value → H} {w : World} {base : Nat} {v : Value} {d : DataW H} {p : List MemPlace} (hok : Value.okWide Try.prog w .any base 37 v) (h : DataW.Trod enc Try.prog w 0 (fun _ => true) true 37 v d p) :
    ∃ l, IntsAt w v l ∧ l.length ≤ 9223372036854775807 ∧ ∀ x ∈ l, -9223372036854775808 ≤ x ∧ x ≤ 9223372036854775807 := by
  obtain ⟨a, len, cap, rfl⟩ := Go.WideShapes.okWide_slice Try.underlying37 hok
  obtain ⟨fuel, hf⟩ := h
  rcases Go.ChangeShapes.open_ints Try.underlying37 Try.underlying3 cells_int hf with ⟨hcs, _⟩ | ⟨x, l, c, zs, hcs, _, hl, hm, hz, _, hcell, hws⟩
  · simp [Value.cells] at hcs
    obtain ⟨rfl, rfl, rfl⟩ := hcs
    exact ⟨[], IntsAt.nil _, by simp, by simp⟩
  · simp [Value.cells] at hcs
    obtain ⟨rfl, rfl, rfl⟩ := hcs
    have hz' : zs.length = cap := by simpa using hz
    have hlen : (zs.take len).length = len := by rw [List.length_take]; omega
    refine ⟨zs.take len, ⟨some x, cap, by rw [hlen], by omega, fun h0 => ?_⟩, ?_, fun y hy => ?_⟩
    · rw [hlen] at h0
      have h1 := hcell 0 (by omega)
      obtain ⟨b, off, spot⟩ := x
      have hs : spot = none := by simpa [Addr.add] using World.cell?_spot h1
      subst hs
      refine ⟨b, off, rfl, ?_, ?_⟩
      · rcases Nat.lt_or_ge b w.heap.size with h | h
        · exact h
        · simp [World.cell?, Addr.add, Array.getElem?_eq_none h] at h1
      · intro j x hj
        have hjl : j < len := by have := (List.getElem?_eq_some_iff.1 hj).1; omega
        have h2 := hcell j (by omega)
        rw [List.getElem?_take_of_lt hjl] at hj
        rw [List.getD_eq_getElem?_getD, hj] at h2
        have ha : (⟨b, off, none⟩ : Addr).add j = ⟨b, off + j, none⟩ := by rcases j with _ | j <;> simp [Addr.add]
        rw [ha] at h2
        exact h2
    · rw [hlen]
      unfold maxLen at hm
      omega
    · have := hws y (List.mem_of_mem_take hy)
      simp [Lit.wf] at this
      exact this
end Go.Proofs.Ytddlgnfghecncaa
