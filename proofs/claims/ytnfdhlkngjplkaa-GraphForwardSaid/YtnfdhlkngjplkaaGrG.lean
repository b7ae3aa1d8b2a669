/- Stage 16's program: Left, Levels (by wip/tools/gen_grg.py). -/
import Derived.Test.YtnfdhlkngjplkaaGrF
namespace Go.Proofs.Ytnfdhlkngjplkaa
open Go.RowKit

theorem left_take (N O : List Int) (k : Nat) (hk : k < N.length) : (N.take (k + 1)).filter (fun n => !inL O n) = (N.take k).filter (fun n => !inL O n) ++ (if inL O N[k] then [] else [N[k]]) := by
  rw [List.take_succ_eq_append_getElem hk, List.filter_append]
  congr 1
  by_cases h : inL O N[k] = true <;> simp [h]
theorem lev_take {β : Type} (N : List Int) (f : Int → β) (k : Nat) (hk : k < N.length) : (N.take (k + 1)).map f = (N.take k).map f ++ [f N[k]] := by
  rw [List.take_succ_eq_append_getElem hk, List.map_append]
  rfl

set_option maxHeartbeats 2000000 in
set_option maxRecDepth 100000 in
theorem gLeft_any (va vb : Value) (l : List Int) (arcs : List Arc16) (w : World) (ha : IntsAt w va l) (hb : ArcsAt w vb arcs) (hl : l.length ≤ 30) (hal : arcs.length ≤ 60) (hB : B64 l) (hBa : B64a arcs) :
    Calls Try.prog 11 #[va, vb] w fun e w' => ∃ v, e = .returned v ∧ IntsAt w' v (leftL l arcs) ∧ Below w.heap.size w w' := by
  have hN : (setL l).length ≤ 30 := Nat.le_trans (setL_le l) hl
  have hBN : ∀ n ∈ setL l, I64 n := fun n hn => hB n ((setL_mem l n).1 hn)
  have GO := Lib.hid (gOf_any va vb l arcs w ha hb hl hal hB hBa)
  have HRI := Lib.hid (setL_ris l)
  have HBN := Lib.hid hBN
  have HOL := Lib.hid (show ordG (setL l) arcs (setL l).length [] = ordL l arcs from rfl)
  have HRES := Lib.hid (show leftL l arcs = (setL l).filter fun n => !inL (ordL l arcs) n from rfl)
  obtain ⟨Z, hZ⟩ : ∃ Z, leftL l arcs = Z := ⟨_, rfl⟩
  rw [hZ] at HRES ⊢
  generalize ordL l arcs = O at *
  generalize setL l = N at *
  clear ha hb hB hBa hBN hZ
  go_enter Try.func11, Try.ntmps11
  go_upto_region 2 with (go_at_call 19; (with_reducible refine GO.out.mono ?_); rintro e w1 ⟨a, c, mb, ab, hm, gh, rfl, hab, hG, hI, hb1⟩; have HAB := Lib.hid hab; have HG := Lib.hid hG; have HI := Lib.hid hI; have HB1 := Lib.hid hb1; clear hab hG hI hb1)
  have b1 := (Below.refl w1.heap.size w1).alloc (Nat.le_refl _) (.cells #[.slice a N.length c, .map (some mb), .map (some ab)] 39)
  have hX := Blk.new w1 [.slice a N.length c, .map (some mb), .map (some ab)] 39
  generalize w1.alloc (.cells #[.slice a N.length c, .map (some mb), .map (some ab)] 39) = w2 at *
  have hE := gLot_any w2 a c mb hm ab gh N arcs HRI.out hN hal HBN.out (HG.out.kept b1) (HI.out.kept b1) (fun k hk => Nat.lt_of_lt_of_le hk.2.1 b1.size) (fun h => h.2.2 rfl)
  rw [HOL.out] at hE
  have HE := Lib.hid hE
  have HXB := Lib.hid hX
  have hba := HI.out.lt
  have HROW := Lib.hid (HG.out.kept b1).row
  have HRN := Lib.hid HG.out.rn
  have HBB := Lib.hid (HB1.out.trans (b1.mono HB1.out.size))
  have HBA := Lib.hid hba
  have g0 := hX.cell 0 rfl
  have g1 := hX.cell 1 rfl
  have g2 := hX.cell 2 rfl
  clear hE hX hba b1 GO HG HI HOL
  go_upto_region 4 with (go_at_call 24; (with_reducible refine HE.out.mono ?_); rintro e w3 ⟨tb, m, rfl, hm3, ho⟩; have HX3 := Lib.hid (HXB.out.only ho (by have := HBA.out; omega)); have HM3 := Lib.hid hm3; have HO3 := Lib.hid ho; clear hm3 ho g0 g1 g2)
  have HR3 := Lib.hid (RowsAt.only HROW.out.rows HO3.out fun h0 g hg => (HRN.out h0 g hg).2.2).ints
  have HB3 := Lib.hid (HBB.out.trans (HO3.out.below (fun k hk => by have := HAB.out; omega) HBB.out.size))
  have g0 := HX3.out.cell 0 rfl
  clear HXB HX3 HROW HRN HBB HE HO3
  go_wp2
  clear g0
  go_loopw [7, 20] (fun v i wr => ∃ k : Nat, k ≤ N.length ∧ i = .int .i64 k ∧ OwnI wr w3.heap.size v ((N.take k).filter fun n => !inL O n) ∧ Below w3.heap.size w3 wr) (fun _ i _ => N.length - (intOf i).toNat)
  case atStart => exact ⟨0, Nat.zero_le _, rfl, OwnR.nil _ _ _ _ _, Below.refl _ _⟩
  case round =>
    obtain ⟨k, hk, rfl, hown, hB⟩ := hrel
    have HOW := Lib.hid hown
    have HB := Lib.hid hB
    by_cases hlt : k < N.length
    · obtain ⟨g, o, cc, e, hcc, _, p0⟩ := IntsAt.spot (HR3.out.below hB) k hlt
      cases e
      have hx64 := HBN.out _ (List.getElem_mem hlt)
      have hnx := left_take N O k hlt
      have hlk := (HM3.out.kept hB).look hx64
      rw [gT_some] at hlk
      have hlen : ((N.take k).filter fun n => !inL O n).length ≤ 1000000 := by exact Nat.le_trans (List.length_filter_le _ _) (by rw [List.length_take]; omega)
      have HLEN := Lib.hid hlen
      have j0 : (0 : Int) ≤ (k : Int) := by omega
      have j1 : (k : Int) < (N.length : Int) := by omega
      have j2 : (k : Int) ≤ 30 := by omega
      generalize N[k]'hlt = x at *
      obtain ⟨t, ht⟩ : ∃ t, inL O x = t := ⟨_, rfl⟩
      rw [ht] at hlk hnx
      generalize (gT arcs O x).getD 0 = y at *
      clear hx64 hown hB hlen
      cases t
      · simp only [Bool.false_eq_true, if_false] at hnx
        have HNX := Lib.hid hnx
        clear hnx ht
        go_wp2_with (at_builtin; refine app1 HOW.out HB.out.size HLEN.out rfl _ _ rfl rfl rfl ?_; intro v6 w6 o6 b6; have HO6 := Lib.hid o6; have HB6 := Lib.hid b6; clear o6 b6)
        go_roundw
        case rel => exact ⟨k + 1, by omega, by go_num, by rw [HNX.out]; exact HO6.out, HB.out.trans HB6.out⟩
        case measure => simp [intOf]; omega
      · simp only [if_true, List.append_nil] at hnx
        have HNX := Lib.hid hnx
        clear hnx ht
        go_wp2
        go_roundw
        case rel => exact ⟨k + 1, by omega, by go_num, by rw [HNX.out]; exact HOW.out, HB.out⟩
        case measure => simp [intOf]; omega
    · have hke : k = N.length := by omega
      subst hke
      rw [List.take_length, ← HRES.out] at HOW
      clear hk hlt hown hB
      go_wp2
      go_ret
      exact ⟨_, rfl, (OwnI.ints HOW.out), HB3.out.trans (HB.out.mono HB3.out.size)⟩

set_option maxHeartbeats 2000000 in
set_option maxRecDepth 100000 in
theorem gLevels_any (va vb : Value) (l : List Int) (arcs : List Arc16) (w : World) (ha : IntsAt w va l) (hb : ArcsAt w vb arcs) (hl : l.length ≤ 30) (hal : arcs.length ≤ 60) (hB : B64 l) (hBa : B64a arcs) :
    Calls Try.prog 15 #[va, vb] w fun e w' => ∃ v, e = .returned v ∧ IntsAt w' v (levL l arcs) ∧ Below w.heap.size w w' := by
  have hN : (setL l).length ≤ 30 := Nat.le_trans (setL_le l) hl
  have hBN : ∀ n ∈ setL l, I64 n := fun n hn => hB n ((setL_mem l n).1 hn)
  have GO := Lib.hid (gOf_any va vb l arcs w ha hb hl hal hB hBa)
  have HRI := Lib.hid (setL_ris l)
  have HBN := Lib.hid hBN
  have HOL := Lib.hid (show ordG (setL l) arcs (setL l).length [] = ordL l arcs from rfl)
  have HRES := Lib.hid (show levL l arcs = (setL l).map (levOf (levP arcs (ordL l arcs))) from rfl)
  obtain ⟨Z, hZ⟩ : ∃ Z, levL l arcs = Z := ⟨_, rfl⟩
  rw [hZ] at HRES ⊢
  have HLN := Lib.hid (fun n => lev_no (ids := l) (arcs := arcs) (n := n))
  generalize ordL l arcs = O at *
  generalize setL l = N at *
  clear ha hb hB hBa hBN hZ
  go_enter Try.func15, Try.ntmps15
  go_upto_region 2 with (go_at_call 19; (with_reducible refine GO.out.mono ?_); rintro e w1 ⟨a, c, mb, ab, hm, gh, rfl, hab, hG, hI, hb1⟩; have HAB := Lib.hid hab; have HG := Lib.hid hG; have HI := Lib.hid hI; have HB1 := Lib.hid hb1; clear hab hG hI hb1)
  have b1 := (Below.refl w1.heap.size w1).alloc (Nat.le_refl _) (.cells #[.slice a N.length c, .map (some mb), .map (some ab)] 39)
  have hX := Blk.new w1 [.slice a N.length c, .map (some mb), .map (some ab)] 39
  generalize w1.alloc (.cells #[.slice a N.length c, .map (some mb), .map (some ab)] 39) = w2 at *
  have hE := gLot_any w2 a c mb hm ab gh N arcs HRI.out hN hal HBN.out (HG.out.kept b1) (HI.out.kept b1) (fun k hk => Nat.lt_of_lt_of_le hk.2.1 b1.size) (fun h => h.2.2 rfl)
  rw [HOL.out] at hE
  have HE := Lib.hid hE
  have HXB := Lib.hid hX
  have hba := HI.out.lt
  have HROW := Lib.hid (HG.out.kept b1).row
  have HRN := Lib.hid HG.out.rn
  have HBB := Lib.hid (HB1.out.trans (b1.mono HB1.out.size))
  have HBA := Lib.hid hba
  have g0 := hX.cell 0 rfl
  have g1 := hX.cell 1 rfl
  have g2 := hX.cell 2 rfl
  clear hE hX hba b1 GO HG HI HOL
  go_upto_region 4 with (go_at_call 24; (with_reducible refine HE.out.mono ?_); rintro e w3 ⟨tb, m, rfl, hm3, ho⟩; have HX3 := Lib.hid (HXB.out.only ho (by have := HBA.out; omega)); have HM3 := Lib.hid hm3; have HO3 := Lib.hid ho; clear hm3 ho g0 g1 g2)
  have HR3 := Lib.hid (RowsAt.only HROW.out.rows HO3.out fun h0 g hg => (HRN.out h0 g hg).2.2).ints
  have HB3 := Lib.hid (HBB.out.trans (HO3.out.below (fun k hk => by have := HAB.out; omega) HBB.out.size))
  have g0 := HX3.out.cell 0 rfl
  clear HXB HX3 HROW HRN HBB HE HO3
  go_wp2
  clear g0
  go_loopw [7, 20] (fun v i wr => ∃ k : Nat, k ≤ N.length ∧ i = .int .i64 k ∧ OwnI wr w3.heap.size v ((N.take k).map (levOf (levP arcs O))) ∧ Below w3.heap.size w3 wr) (fun _ i _ => N.length - (intOf i).toNat)
  case atStart => exact ⟨0, Nat.zero_le _, rfl, OwnR.nil _ _ _ _ _, Below.refl _ _⟩
  case round =>
    obtain ⟨k, hk, rfl, hown, hB⟩ := hrel
    have HOW := Lib.hid hown
    have HB := Lib.hid hB
    by_cases hlt : k < N.length
    · obtain ⟨g, o, cc, e, hcc, _, p0⟩ := IntsAt.spot (HR3.out.below hB) k hlt
      cases e
      have hx64 := HBN.out _ (List.getElem_mem hlt)
      have hnx := lev_take N (levOf (levP arcs O)) k hlt
      have hno := HLN.out N[k]
      have hgt : N[k] ∈ O → (gT arcs O N[k]).getD 0 = levOf (levP arcs O) N[k] := fun h => by unfold gT; rw [if_pos h]; rfl
      have hlk := (HM3.out.kept hB).look hx64
      rw [gT_some] at hlk
      have hlen : ((N.take k).map (levOf (levP arcs O))).length ≤ 1000000 := by rw [List.length_map, List.length_take]; omega
      have HLEN := Lib.hid hlen
      have j0 : (0 : Int) ≤ (k : Int) := by omega
      have j1 : (k : Int) < (N.length : Int) := by omega
      have j2 : (k : Int) ≤ 30 := by omega
      generalize N[k]'hlt = x at *
      obtain ⟨t, ht⟩ : ∃ t, inL O x = t := ⟨_, rfl⟩
      rw [ht] at hlk
      clear hx64 hown hB hlen
      cases t
      · have hlv := hno (inL_not.1 ht)
        rw [hlv] at hnx
        have HNX := Lib.hid hnx
        clear hnx ht hlv hno hgt
        go_wp2_with (at_builtin; refine app1 HOW.out HB.out.size HLEN.out rfl _ _ rfl rfl rfl ?_; intro v6 w6 o6 b6; have HO6 := Lib.hid o6; have HB6 := Lib.hid b6; clear o6 b6)
        go_roundw
        case rel => exact ⟨k + 1, by omega, by go_num, by rw [HNX.out]; exact HO6.out, HB.out.trans HB6.out⟩
        case measure => simp [intOf]; omega
      · rw [hgt (inL_iff.1 ht)] at hlk
        generalize levOf (levP arcs O) x = lx at *
        have HNX := Lib.hid hnx
        clear hnx ht hno hgt
        go_wp2_with (at_builtin; refine app1 HOW.out HB.out.size HLEN.out rfl _ _ rfl rfl rfl ?_; intro v6 w6 o6 b6; have HO6 := Lib.hid o6; have HB6 := Lib.hid b6; clear o6 b6)
        go_roundw
        case rel => exact ⟨k + 1, by omega, by go_num, by rw [HNX.out]; exact HO6.out, HB.out.trans HB6.out⟩
        case measure => simp [intOf]; omega
    · have hke : k = N.length := by omega
      subst hke
      rw [List.take_length, ← HRES.out] at HOW
      clear hk hlt hown hB
      go_wp2
      go_ret
      exact ⟨_, rfl, (OwnI.ints HOW.out), HB3.out.trans (HB.out.mono HB3.out.size)⟩
end Go.Proofs.Ytnfdhlkngjplkaa
